/- The program's columns of outs: columnsOf, columnOf, OnesOf. For every circuit of at most 1048576 gates and outs. -/
import Derived.Test.YtnelcbjegbchkaaSiI2
import Derived.Test.YtnelcbjegbchkaaSumI
namespace Go.Proofs.Ytnelcbjegbchkaa
open Go.RowKit
set_option maxRecDepth 100000

set_option maxHeartbeats 1000000 in
theorem atClosure_any (R : Option Addr) (m c : Nat) (xs : List Int) (b k : Nat) (i z : Int) (w : World) (h : Has w R m xs) (hk : k < m) (hb : w.cell? ⟨b, 0, none⟩ = some (.int .i64 (k : Int))) (hz : xs.getD k 0 = z) :
    Calls Try.prog 169 #[.int .i64 i, .slice R m c, .pointer (some ⟨b, 0, none⟩)] w fun e w' => e = .returned (.int .i64 z) ∧ Below w.heap.size w w' := by
  obtain ⟨ad, y, rfl, hc, HY⟩ := h.elem hk
  obtain rfl : z = y := (HY.out.trans hz).symm
  have k0 : (0 : Int) ≤ (k : Int) := by omega
  have k1 : (k : Int) < (m : Int) := by omega
  clear hz
  go_enter Try.func169, Try.ntmps169
  go_wp2_with fail
  go_ret
  exact ⟨rfl, Below.refl _ _⟩

set_option maxRecDepth 100000 in
set_option maxHeartbeats 1000000 in
theorem colClosure_any (C : Ci) (N S g bt k : Nat) (y : Int) (w : World) (hN : rowsN C = N) (hN1 : N ≤ 1024) (hk : k < C.os.length) (hM : MatR w S g N (fun j => outBits C (j : Int))) (hb : w.cell? ⟨bt, 0, none⟩ = some (.slice (some ⟨g, 0, none⟩) N N)) (hbt : bt < w.heap.size) :
    Calls Try.prog 168 #[.int .i64 (k : Int), .int .i64 y, .pointer (some ⟨bt, 0, none⟩)] w fun e w' => ∃ R m c', e = .returned (.slice R m c') ∧ Own w' w.heap.size R m c' (colOf C k) ∧ m ≤ 16777216 ∧ Below w.heap.size w w' := by
  have B1 := belowNew w (.cells #[.int .i64 (k : Int)] 3)
  have p1 := Blk.new w #[.int .i64 (k : Int)] 3
  obtain ⟨W1, hW1⟩ : ∃ W, W = w.alloc (.cells #[.int .i64 (k : Int)] 3) := ⟨_, rfl⟩
  rw [← hW1] at B1 p1
  have hb1 := cellKept B1 hbt hb
  have hM1 := hM.below B1
  have HC : Hid (Calls Try.prog 66 #[.slice (some ⟨g, 0, none⟩) N N, .func (.func 169) #[] #[.pointer (some ⟨w.heap.size, 0, none⟩)]] W1 fun e w' => ∃ R, e = .returned (.slice R N N) ∧ Own w' W1.heap.size R N N (mapTo (fun j => (outBits C (j : Int)).getD k 0) N) ∧ Below W1.heap.size W1 w') :=
    Lib.hid (changedRI_any 169 _ (enters_of Try.func169 (by kernel_rfl) rfl) (fun j => (outBits C (j : Int)).getD k 0) _ N N _ W1 (HasM.of hM1) (by omega) (fun W j R m cR hj hbW hR hm1 _ _ =>
      atClosure_any R m cR _ w.heap.size k (j : Int) _ W hR (by rw [← hR.1, outBits_length]; exact hk) ((p1.below' hbW).cell (i := 0) rfl) rfl))
  have HE : Hid (mapTo (fun j => (outBits C (j : Int)).getD k 0) N = colOf C k) := by show _ = _; rw [colOf, hN, colTo]
  clear hb hN hk
  go_enter Try.func168, Try.ntmps168
  go_upto_region 1 with fail
  rw [← hW1]
  clear hW1
  go_wp2_with fail
  refine (HC.out).mono ?_
  rintro e w2 ⟨R, rfl, o2, b2⟩
  rw [HE.out] at o2
  go_wp2_with fail
  go_ret
  exact ⟨R, N, N, rfl, o2.mono B1.size, by omega, B1.trans (b2.mono B1.size)⟩

set_option maxRecDepth 100000 in
set_option maxHeartbeats 1000000 in
theorem columnsOf_any (v : Value) (C : Ci) (w : World) (h : HasC w v C) (hS : tiny C = true) :
    Calls Try.prog 113 #[v] w fun e w' => ∃ q, e = .returned (.slice (some ⟨q, 0, none⟩) C.os.length C.os.length) ∧ MatR w' w.heap.size q C.os.length (fun k => colOf C k) ∧ Below w.heap.size w w' := by
  obtain ⟨p, N, hp, hpp, p10, hN, hNI, N0, N1⟩ := tinyPow hS
  have o40 := (gd_yes (tiny_yes hS).1).o
  obtain ⟨G, n, c, O, q, d, rfl, _, hO, _, _, _, _⟩ := id h
  have hol := hO.1
  rw [hol] at o40 ⊢
  have B1 := belowNew w (.cells #[.int .i64 C.in0, .int .i64 C.in1, .slice G n c, .slice O q d] 34)
  have p1 := Blk.new w #[.int .i64 C.in0, .int .i64 C.in1, .slice G n c, .slice O q d] 34
  have h1 := h.below B1
  obtain ⟨W1, hW1⟩ : ∃ W, W = w.alloc (.cells #[.int .i64 C.in0, .int .i64 C.in1, .slice G n c, .slice O q d] 34) := ⟨_, rfl⟩
  rw [← hW1] at B1 p1 h1
  have hO1 := hO.below B1
  have HT : Hid (Calls Try.prog 67 #[.agg #[.int .i64 C.in0, .int .i64 C.in1, .slice G n c, .slice O q d]] W1 fun e w' => ∃ q, e = .returned (.slice (some ⟨q, 0, none⟩) N N) ∧ MatR w' W1.heap.size q N (fun k => outBits C (k : Int)) ∧ Below W1.heap.size W1 w') := by
    show Calls _ _ _ _ _
    rw [← hN]; exact outsTable_any _ C W1 h1 hS
  obtain ⟨k0, k1, k2, k3⟩ := p1.four
  have HN := Lib.hid hN
  have HOL := Lib.hid hol
  clear h hS hO hp hpp hNI hN hol h1
  go_enter Try.func113, Try.ntmps113
  go_wp2_with fail
  rw [← hW1]
  clear hW1
  refine (HT.out).mono ?_
  rintro e w2 ⟨g, rfl, hM, b2⟩
  have p2 := p1.below' b2
  have B2 := B1.trans (b2.mono B1.size)
  have hO2 := hO1.below b2
  have b3 := belowNew w2 (.cells #[.slice (some ⟨g, 0, none⟩) N N] 64)
  have r3 := Blk.new w2 #[.slice (some ⟨g, 0, none⟩) N N] 64
  have p3 := p2.below' b3
  have hM3 := hM.below b3
  obtain ⟨W3, hW3⟩ : ∃ W, W = w2.alloc (.cells #[.slice (some ⟨g, 0, none⟩) N N] 64) := ⟨_, rfl⟩
  rw [← hW3] at b3 r3 p3 hM3
  have B3 := B2.trans (b3.mono B2.size)
  have HC : Hid (Calls Try.prog 135 #[.slice O q d, .func (.func 168) #[] #[.pointer (some ⟨w2.heap.size, 0, none⟩)]] W3 fun e w' => ∃ x, e = .returned (.slice (some ⟨x, 0, none⟩) q q) ∧ MatR w' W3.heap.size x q (fun k => colOf C k) ∧ Below W3.heap.size W3 w') :=
    Lib.hid (changedIR_any 168 _ (enters_of Try.func168 (by kernel_rfl) rfl) _ O q d _ W3 (hO2.below b3) (by omega) (fun W k hk hbW =>
      colClosure_any C N _ g w2.heap.size k _ W HN.out N1 (by rw [HOL.out]; exact hk) (hM3.below hbW) ((r3.below' hbW).cell (i := 0) rfl) (r3.below' hbW).lt))
  clear k0 k1 k2 k3 p1 p2 hM hM3 r3 HT b2 hO1 hO2
  obtain ⟨k0, k1, k2, k3⟩ := p3.four
  go_upto_region 2 with fail
  rw [← hW3]
  clear hW3
  go_wp2_with fail
  refine (HC.out).mono ?_
  rintro e w4 ⟨x, rfl, hX, b4⟩
  go_wp2_with fail
  go_ret
  exact ⟨x, rfl, hX.mono B3.size, B3.trans (b4.mono B3.size)⟩

set_option maxRecDepth 100000 in
set_option maxHeartbeats 1000000 in
theorem columnOf_any (v : Value) (C : Ci) (k : Int) (ok : Bool) (w : World) (h : HasC w v C) (hf : Fit C) (hok : outAsk C k = ok) :
    Calls Try.prog 107 #[v, .int .i64 k] w fun e w' => ∃ R m c', e = .returned (.tuple #[.slice R m c', .bool ok]) ∧ Has w' R m (if ok = true then colOf C k.toNat else []) ∧ m ≤ 16777216 ∧ m ≤ c' ∧ NilOk R m c' ∧ Below w.heap.size w w' := by
  obtain ⟨G, n, c, O, q, d, rfl, _, hO, _, _, _, _⟩ := id h
  have HOL := Lib.hid hO.1
  have HOK := Lib.hid hok
  have B1 := belowNew w (.cells #[.int .i64 C.in0, .int .i64 C.in1, .slice G n c, .slice O q d] 34)
  have p1 := Blk.new w #[.int .i64 C.in0, .int .i64 C.in1, .slice G n c, .slice O q d] 34
  have h1 := h.below B1
  obtain ⟨W1, hW1⟩ : ∃ W, W = w.alloc (.cells #[.int .i64 C.in0, .int .i64 C.in1, .slice G n c, .slice O q d] 34) := ⟨_, rfl⟩
  rw [← hW1] at B1 p1 h1
  obtain ⟨t, ht⟩ : ∃ t, tiny C = t := ⟨_, rfl⟩
  have HG := Lib.hid (isSmall_any _ C t W1 h1 hf ht)
  have HT := Lib.hid ht
  obtain ⟨k0, k1, k2, k3⟩ := p1.four
  clear h hO hok ht
  cases t with
  | false =>
    obtain rfl : false = ok := by rw [← HOK.out, outAsk, HT.out]; rfl
    go_enter Try.func107, Try.ntmps107
    go_wp2_with fail
    rw [← hW1]
    refine (HG.out).mono ?_
    rintro e w2 ⟨rfl, b2⟩
    go_wp2_with fail
    go_ret2
    exact ⟨none, 0, 0, rfl, Has.nil_, by omega, by omega, fun _ => ⟨rfl, rfl⟩, B1.trans (b2.mono B1.size)⟩
  | true =>
    have HB : Hid (∀ W, Calls Try.prog 57 #[.int .i64 k, .int .i64 (q : Int)] W fun e w' => e = .returned (.bool ok) ∧ W = w') := fun W => isBelow_any k (q : Int) ok W (by rw [← HOK.out, outAsk, HT.out, HOL.out]; rfl)
    go_enter Try.func107, Try.ntmps107
    go_wp2_with fail
    rw [← hW1]
    clear hW1
    refine (HG.out).mono ?_
    rintro e w2 ⟨rfl, b2⟩
    have p2 := p1.below' b2
    have h2 := h1.below b2
    have B2 := B1.trans (b2.mono B1.size)
    clear k0 k1 k2 k3 p1 h1 B1 b2 HG
    obtain ⟨k0, k1, k2, k3⟩ := p2.four
    go_wp2_with fail
    refine ((HB.out _)).mono ?_
    rintro e w3 ⟨rfl, rfl⟩
    cases ok with
    | false =>
      go_wp2_with fail
      go_ret2
      exact ⟨none, 0, 0, rfl, Has.nil_, by omega, by omega, fun _ => ⟨rfl, rfl⟩, B2⟩
    | true =>
      obtain ⟨_, a0, a1⟩ := outAsk_yes HOK.out
      obtain ⟨kk, rfl⟩ : ∃ j : Nat, k = (j : Int) := ⟨k.toNat, by omega⟩
      have hkk : kk < C.os.length := by omega
      have hkq : (kk : Int) < (C.os.length : Int) := by omega
      have HC := Lib.hid (columnsOf_any _ C w2 h2 HT.out)
      clear a1 h2
      go_wp2_with fail
      refine (HC.out).mono ?_
      rintro e w3 ⟨g, rfl, hM, b3⟩
      obtain ⟨R, m, c', hc, hR, hm1, hm2, hNil, _⟩ := hM.elem hkk
      have hR' : Has w3 R m (if true = true then colOf C (kk : Int).toNat else []) := by rw [if_pos rfl]; exact hR
      have HR := Lib.hid hR'
      clear hM hR hR' k0 k1 k2 k3
      go_wp2_with fail
      go_ret2
      exact ⟨R, m, c', rfl, HR.out, hm1, hm2, hNil, B2.trans (b3.mono B2.size)⟩

set_option maxRecDepth 100000 in
set_option maxHeartbeats 1000000 in
theorem impl_OnesOf (v : Value) (C : Ci) (k : Int) (ry : Int) (rb : Bool) (w : World) (h : HasC w v C) (hf : Fit C) (_hk : I64 k) (hm : m_OnesOf C k = (ry, rb)) :
    Calls Try.prog 42 #[v, .int .i64 k] w fun e w' => e = .returned (.tuple #[.int .i64 ry, .bool rb]) ∧ Below w.heap.size w w' := by
  obtain ⟨G, n, c, O, q, d, rfl, _, _, _, _, _, _⟩ := id h
  have B1 := belowNew w (.cells #[.int .i64 C.in0, .int .i64 C.in1, .slice G n c, .slice O q d] 34)
  have p1 := Blk.new w #[.int .i64 C.in0, .int .i64 C.in1, .slice G n c, .slice O q d] 34
  have h1 := h.below B1
  obtain ⟨W1, hW1⟩ : ∃ W, W = w.alloc (.cells #[.int .i64 C.in0, .int .i64 C.in1, .slice G n c, .slice O q d] 34) := ⟨_, rfl⟩
  rw [← hW1] at B1 p1 h1
  have hmm : m_OnesOf C k = ((if outAsk C k = true then colOf C k.toNat else []).sum, outAsk C k) := by
    rw [m_OnesOf]
    cases outAsk C k <;> rfl
  obtain ⟨e1, rfl⟩ := Prod.mk.inj (hmm.symm.trans hm)
  have HC := Lib.hid (columnOf_any _ C k (outAsk C k) W1 h1 hf rfl)
  obtain ⟨zs, hzs⟩ : ∃ zs : List Int, (if outAsk C k = true then colOf C k.toNat else []) = zs := ⟨_, rfl⟩
  have hz : ∀ j, 0 ≤ zs.getD j 0 ∧ zs.getD j 0 ≤ 1 := fun j => by
    rw [← hzs]
    split
    · have := colTo_bits C k.toNat (rowsN C) j
      rw [colOf]; omega
    · simp
  rw [hzs] at HC e1
  have HZ := Lib.hid hz
  have HE := Lib.hid e1
  generalize outAsk C k = ok at *
  obtain ⟨k0, k1, k2, k3⟩ := p1.four
  clear h hm hmm hzs hz e1
  go_enter Try.func42, Try.ntmps42
  go_wp2_with fail
  rw [← hW1]
  clear hW1
  refine (HC.out).mono ?_
  rintro e w2 ⟨R, m, c', rfl, hR, hm1, _, _, b2⟩
  have B2 := B1.trans (b2.mono B1.size)
  have HL : Hid (zs.length = m) := hR.1
  have HH := Lib.hid hR
  clear k0 k1 k2 k3 p1 h1 B1 b2 HC hR
  go_wp2_with fail
  go_loop [8, 19] (fun s i => ∃ k : Nat, k ≤ m ∧ i = .int .i64 k ∧ s = .int .i64 (lsumTo zs k)) (fun _ i => m - (intOf i).toNat)
  case atStart => exact ⟨0, Nat.zero_le _, rfl, rfl⟩
  case round =>
    obtain ⟨k, hk, rfl, rfl⟩ := hrel
    have hs := lsumTo_range HZ.out k
    by_cases hlt : k < m
    · obtain ⟨ad, z, rfl, hc, HEz⟩ := HH.out.elem hlt
      have hr := HZ.out k
      rw [← HEz.out] at hr
      have HS : Hid (lsumTo zs (k + 1) = lsumTo zs k + z) := by show _ = _; rw [lsumTo, HEz.out]
      obtain ⟨y, hy⟩ : ∃ y, lsumTo zs k = y := ⟨_, rfl⟩
      rw [hy] at hs HS ⊢
      obtain ⟨s0, s1⟩ := hs
      obtain ⟨r0, r1⟩ := hr
      have hw1 : IntKind.i64.wrap (y + z) = y + z := wrapIn (by omega) (by omega)
      have k0 : (0 : Int) ≤ (k : Int) := by omega
      have k1 : (k : Int) < (m : Int) := by omega
      clear hy
      go_wp2_with fail
      go_round
      case rel => exact ⟨k + 1, by omega, by go_num, by rw [HS.out]⟩
      case measure => simp [intOf]; omega
    · obtain rfl : k = m := by omega
      have HF : Hid (lsumTo zs k = ry) := by show _ = _; rw [← HE.out, ← HL.out, lsumTo_all]
      rw [HF.out]
      clear hs
      go_wp2_with fail
      go_ret2
      exact ⟨rfl, B2⟩

end Go.Proofs.Ytnelcbjegbchkaa
