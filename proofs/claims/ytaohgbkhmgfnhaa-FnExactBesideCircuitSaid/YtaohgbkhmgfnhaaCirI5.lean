/- The program's values of wires: WireValues. For every circuit of at most 1048576 gates and outs and every two lists of at most 16777216 numbers. -/
import Derived.Test.YtaohgbkhmgfnhaaCirI4
import Derived.Test.YtaohgbkhmgfnhaaCirG4
namespace Go.Proofs.Ytaohgbkhmgfnhaa
open Go.RowKit
set_option maxRecDepth 100000

set_option maxHeartbeats 4000000 in
theorem wireValues_any (v : Value) (C : Ci) (A : Option Addr) (m cA : Nat) (xs : List Int) (w : World) (h : HasC w v C) (hG : Good C) (hx : Has w A m xs) (hnil : NilOk A m cA) (hb : Bits xs) (hl : (m : Int) = C.ins) :
    Calls Try.prog 53 #[v, .slice A m cA] w fun e w' => ∃ R c', e = .returned (.slice R (m + C.gs.length) c') ∧ Own w' w.heap.size R (m + C.gs.length) c' (valsC C xs) ∧ Below w.heap.size w w' := by
  obtain ⟨G, n, c, O, q, d, rfl, hGs, hO, _, _, _, _⟩ := id h
  have hgl := hGs.1
  have hxl := hx.1
  have i0 := hG.a0
  have i1 := hG.a1
  have j0 := hG.b0
  have j1 := hG.b1
  have m40 : m ≤ 40 := by unfold Ci.ins at hl; omega
  have n300 : n ≤ 300 := by have := hG.g; omega
  have hres : valsC C xs = valsTo C xs n := by rw [valsC, hgl]
  rw [hgl, hres]
  have hwir : C.wires = ((m + n : Nat) : Int) := by unfold Ci.wires; unfold Ci.ins at hl; push_cast; omega
  have HGate : Hid (∀ k, k < n → gateOk ((m + k : Nat) : Int) (C.gs.getD k g0) = true) := fun k hk => by
    have := hG.gate k (by omega)
    rwa [← hl, ← Int.natCast_add] at this
  have HBits : Hid (∀ k, Bits (valsTo C xs k)) := fun k => valsTo_bits hb k
  have HLen : Hid (∀ k, (valsTo C xs k).length = m + k) := fun k => by rw [valsTo_length, hxl]
  have B1 := belowNew w (.cells #[.int .i64 C.in0, .int .i64 C.in1, .slice G n c, .slice O q d] 30)
  have p1 := Blk.new w #[.int .i64 C.in0, .int .i64 C.in1, .slice G n c, .slice O q d] 30
  obtain ⟨W1, hW1⟩ : ∃ W, W = w.alloc (.cells #[.int .i64 C.in0, .int .i64 C.in1, .slice G n c, .slice O q d] 30) := ⟨_, rfl⟩
  rw [← hW1] at B1 p1
  have hx1 := hx.below B1
  have h1 := h.below B1
  have HW := Lib.hid (wiresIn_any _ C W1 h1 i0 (by omega) j0 (by omega) (by omega))
  rw [hwir] at HW
  obtain ⟨k0, k1, k2, k3⟩ := p1.four
  obtain ⟨N, hN⟩ : ∃ N, m + n = N := ⟨_, rfl⟩
  rw [hN] at HW
  have N340 : N ≤ 340 := by omega
  have HN := Lib.hid hN
  clear h hG hO hgl hres hx hb hl hxl hwir i0 i1 j0 j1 h1 hN
  go_enter Try.func53, Try.ntmps53
  go_wp2_with fail
  rw [← hW1]
  clear hW1
  refine (HW.out).mono ?_
  rintro e w2 ⟨rfl, b2⟩
  have p2 := p1.below' b2
  have hx2 := hx1.below b2
  have B2 := B1.trans (b2.mono B1.size)
  have b2' := b2
  have hlt0 : w.heap.size < W1.heap.size := p1.lt
  clear p1 B1 hx1 b2 HW k0 k1 k2 k3
  have s12 := b2'.size
  go_upto_region 2 with (at_make; refine makeSpare _ rfl _ _ rfl N rfl rfl (by omega) ?_; intro w3 o3 b3)
  have o3' := o3.mono s12
  have p3 := p2.below' b3
  have hx3 := hx2.below b3
  have B3 := B2.trans (b3.mono B2.size)
  have s3 := Nat.le_trans s12 b3.size
  have own3 := o3'.2
  clear p2 hx2 b3 o3 o3' b2' B2
  go_upto_region 3 with (at_builtin; refine appendMany _ rfl (.tmp 11) (.tmp 12) rfl W1.heap.size _ A 0 m cA [] xs rfl own3 rfl hnil hx3 (by omega) (by omega) s3 ?_; intro v4 w4 own4 b4; rw [Nat.zero_add, List.nil_append] at own4)
  obtain ⟨R4, c4, rfl, o4⟩ := ownOf own4
  have p4 := p3.below b4 hlt0
  have B4 := B3.trans (b4.mono (Nat.le_of_lt hlt0))
  have o4' := o4.mono (Nat.le_of_lt hlt0)
  obtain ⟨k0, k1, k2, k3⟩ := p4.four
  clear p3 b4 hx3 own3 own4 B3 o4 p4
  go_wp2_with fail
  clear k0 k1 k2 k3
  go_loopw [5, 17] (fun vv iv wr => ∃ (k : Nat) (R : Option Addr) (c' : Nat), k ≤ n ∧ iv = .int .i64 k ∧ vv = .slice R (m + k) c' ∧ Own wr w.heap.size R (m + k) c' (valsTo C xs k) ∧ Below w.heap.size w wr) (fun _ iv _ => n - (intOf iv).toNat)
  case atStart => exact ⟨0, R4, c4, Nat.zero_le _, rfl, rfl, o4', B4⟩
  case round =>
    obtain ⟨k, R, c', hk, rfl, rfl, ho, bk⟩ := hrel
    by_cases hlt : k < n
    · obtain ⟨ad, x, y, z, rfl, hgx, hgy, hgz, HE⟩ := (hGs.below bk).elem hlt
      have hgate := HGate.out k hlt
      rw [HE.out] at hgate
      have b3 := belowNew wr (.cells #[.int .i64 x, .int .i64 y, .int .i64 z] 51)
      have y3 := Blk.new wr #[.int .i64 x, .int .i64 y, .int .i64 z] 51
      have ho3 := ho.below b3
      have q0 : (0 : Int) ≤ (k : Int) := by omega
      have q1 : (k : Int) < (n : Int) := by omega
      obtain ⟨w3, hw3⟩ : ∃ W, W = wr.alloc (.cells #[.int .i64 x, .int .i64 y, .int .i64 z] 51) := ⟨_, rfl⟩
      rw [← hw3] at b3 y3 ho3
      have B3 := bk.trans (b3.mono bk.size)
      have g0c := y3.cell (i := 0) rfl
      have g1c := y3.cell (i := 1) rfl
      have g2c := y3.cell (i := 2) rfl
      obtain ⟨u, hu⟩ : ∃ u, gval (valsTo C xs k) (x, y, z) = u := ⟨_, rfl⟩
      have HV : Hid (valsTo C xs k ++ [u] = valsTo C xs (k + 1)) := by
        show _ = _
        rw [valsTo, HE.out, hu]
      have HC := Lib.hid (gateValue_any x y z R (m + k) c' (valsTo C xs k) u w3 hgate ho3.has (HBits.out k) hu)
      have BK := Lib.hid B3
      clear b3 ho y3 hgate hu B3 bk
      go_upto_region 6 with fail
      rw [← hw3]
      clear hw3 hgx hgy hgz
      go_wp2_with fail
      refine (HC.out).mono ?_
      rintro e w4 ⟨rfl, b4⟩
      have ho4 := ho3.below b4
      have B4 := BK.out.trans (b4.mono BK.out.size)
      have s4 := B4.size
      have own4 := ho4.2
      clear b4 ho3 ho4 HC g0c g1c g2c
      go_wp2_with (at_builtin; refine appendInt w4 rfl (.tmp 21) (.tmp 25) rfl u w.heap.size _ (m + k) _ rfl rfl own4 (by omega) s4 ?_; intro v5 w5 own5 b5)
      rw [HV.out] at own5
      obtain ⟨R5, c5, rfl, ho5⟩ := ownOf own5
      go_roundw
      case rel => exact ⟨k + 1, R5, c5, by omega, by go_num, rfl, ho5, B4.trans b5⟩
      case measure => simp [intOf]; omega
    · obtain rfl : k = n := by omega
      go_wp2_with fail
      go_ret
      exact ⟨R, c', rfl, ho, bk⟩

theorem asked64 {C : Ci} {a b : List Int} : asked C a b = (gd C && good 64 a && good 64 b && decide ((a.length : Int) = C.in0) && decide ((b.length : Int) = C.in1)) := by
  rw [asked]
  cases e : gd C with
  | false => rfl
  | true =>
    have hG := gd_yes e
    have h1 := hG.a1
    have h2 := hG.b1
    by_cases l1 : (a.length : Int) = C.in0
    · by_cases l2 : (b.length : Int) = C.in1
      · have g1 : good 20 a = good 64 a := by unfold good; rw [decide_eq_true (by omega), decide_eq_true (by omega)]
        have g2 : good 20 b = good 64 b := by unfold good; rw [decide_eq_true (by omega), decide_eq_true (by omega)]
        rw [g1, g2]
      · rw [decide_eq_false l2, Bool.and_false, Bool.and_false]
    · rw [decide_eq_false l1, Bool.and_false, Bool.and_false]

set_option maxHeartbeats 4000000 in
theorem impl_WireValues (v : Value) (C : Ci) (A : Option Addr) (n1 c1 : Nat) (xs : List Int) (B : Option Addr) (n2 c2 : Nat) (ys : List Int) (rs : List Int) (rb : Bool) (w : World) (h : HasC w v C) (hf : Fit C) (hx : Has w A n1 xs) (hn : n1 ≤ 16777216) (hnil : NilOk A n1 c1) (hy : Has w B n2 ys) (hn2 : n2 ≤ 16777216) (hnil2 : NilOk B n2 c2) (hm : m_WireValues C xs ys = (rs, rb)) :
    Calls Try.prog 19 #[v, .slice A n1 c1, .slice B n2 c2] w fun e w' => ∃ R m c', e = .returned (.tuple #[.slice R m c', .bool rb]) ∧ Own w' w.heap.size R m c' rs ∧ m ≤ 16777216 ∧ Below w.heap.size w w' := by
  obtain ⟨G, n, c, O, q, d, rfl, hGs, hO, _, _, _, _⟩ := id h
  have HX := Lib.hid hx.1
  have HY := Lib.hid hy.1
  have HM := Lib.hid hm
  have B1 := belowNew w (.cells #[.int .i64 C.in0, .int .i64 C.in1, .slice G n c, .slice O q d] 30)
  have p1 := Blk.new w #[.int .i64 C.in0, .int .i64 C.in1, .slice G n c, .slice O q d] 30
  have h1 := h.below B1
  have hx1 := hx.below B1
  have hy1 := hy.below B1
  obtain ⟨W1, hW1⟩ : ∃ W, W = w.alloc (.cells #[.int .i64 C.in0, .int .i64 C.in1, .slice G n c, .slice O q d] 30) := ⟨_, rfl⟩
  rw [← hW1] at B1 p1 h1 hx1 hy1
  obtain ⟨eg, hg⟩ : ∃ b, gd C = b := ⟨_, rfl⟩
  obtain ⟨ea, ha⟩ : ∃ b, good 64 xs = b := ⟨_, rfl⟩
  obtain ⟨eb, hb⟩ : ∃ b, good 64 ys = b := ⟨_, rfl⟩
  have HG := Lib.hid (isCircuit_any _ C eg W1 h1 (fitLen hf) hg)
  have HA : Hid (∀ W', Below W1.heap.size W1 W' → Calls Try.prog 52 #[.slice A n1 c1] W' fun e w' => e = .returned (.bool ea) ∧ W' = w') := fun W' hb' => implAreBits A n1 c1 xs ea W' (hx1.below hb') hn ha
  have HBt : Hid (∀ W', Below W1.heap.size W1 W' → Calls Try.prog 52 #[.slice B n2 c2] W' fun e w' => e = .returned (.bool eb) ∧ W' = w') := fun W' hb' => implAreBits B n2 c2 ys eb W' (hy1.below hb') hn2 hb
  have hask : asked C xs ys = (eg && ea && eb && decide ((n1 : Int) = C.in0) && decide ((n2 : Int) = C.in1)) := by rw [asked64, hg, ha, hb, HX.out, HY.out]
  have HQ := Lib.hid hask
  have Hg := Lib.hid hg
  obtain ⟨k0, k1, k2, k3⟩ := p1.four
  have no : asked C xs ys = false → rs = [] ∧ rb = false := fun e => by
    have e2 := HM.out
    rw [m_WireValues, e] at e2
    obtain ⟨rfl, rfl⟩ := Prod.mk.inj e2
    exact ⟨rfl, rfl⟩
  have NO := Lib.hid no
  clear h hx hy hm no hask hg ha hb hGs hO
  cases eg with
  | false =>
    obtain ⟨rfl, rfl⟩ := NO.out (by rw [HQ.out]; rfl)
    go_enter Try.func19, Try.ntmps19
    go_wp2_with fail
    rw [← hW1]
    refine (HG.out).mono ?_
    rintro e w2 ⟨rfl, b2⟩
    go_wp2_with fail
    go_ret2
    exact ⟨none, 0, 0, rfl, Own.nil_ _ _, by omega, B1.trans (b2.mono B1.size)⟩
  | true =>
  cases ea with
  | false =>
    obtain ⟨rfl, rfl⟩ := NO.out (by rw [HQ.out]; rfl)
    go_enter Try.func19, Try.ntmps19
    go_wp2_with fail
    rw [← hW1]
    refine (HG.out).mono ?_
    rintro e w2 ⟨rfl, b2⟩
    go_wp2_with fail
    refine (HA.out _ b2).mono ?_
    rintro e w3 ⟨rfl, rfl⟩
    go_wp2_with fail
    go_ret2
    exact ⟨none, 0, 0, rfl, Own.nil_ _ _, by omega, B1.trans (b2.mono B1.size)⟩
  | true =>
  cases eb with
  | false =>
    obtain ⟨rfl, rfl⟩ := NO.out (by rw [HQ.out]; rfl)
    go_enter Try.func19, Try.ntmps19
    go_wp2_with fail
    rw [← hW1]
    refine (HG.out).mono ?_
    rintro e w2 ⟨rfl, b2⟩
    go_wp2_with fail
    refine (HA.out _ b2).mono ?_
    rintro e w3 ⟨rfl, rfl⟩
    go_wp2_with fail
    refine (HBt.out _ b2).mono ?_
    rintro e w3 ⟨rfl, rfl⟩
    go_wp2_with fail
    go_ret2
    exact ⟨none, 0, 0, rfl, Own.nil_ _ _, by omega, B1.trans (b2.mono B1.size)⟩
  | true =>
  by_cases l1 : (n1 : Int) = C.in0
  case neg =>
    obtain ⟨rfl, rfl⟩ := NO.out (by rw [HQ.out, decide_eq_false l1]; rfl)
    have d1 : ((n1 : Int) != C.in0) = true := by simpa using l1
    go_enter Try.func19, Try.ntmps19
    go_wp2_with fail
    rw [← hW1]
    refine (HG.out).mono ?_
    rintro e w2 ⟨rfl, b2⟩
    have p2 := p1.below' b2
    obtain ⟨k0, k1, k2, k3⟩ := p2.four
    go_wp2_with fail
    refine (HA.out _ b2).mono ?_
    rintro e w3 ⟨rfl, rfl⟩
    go_wp2_with fail
    refine (HBt.out _ b2).mono ?_
    rintro e w3 ⟨rfl, rfl⟩
    go_wp2_with fail
    go_ret2
    exact ⟨none, 0, 0, rfl, Own.nil_ _ _, by omega, B1.trans (b2.mono B1.size)⟩
  case pos =>
  have d1 : ((n1 : Int) != C.in0) = false := by simpa using l1
  have L1 := Lib.hid l1
  clear l1
  by_cases l2 : (n2 : Int) = C.in1
  case neg =>
    obtain ⟨rfl, rfl⟩ := NO.out (by rw [HQ.out, decide_eq_false l2, Bool.and_false])
    have d2 : ((n2 : Int) != C.in1) = true := by simpa using l2
    go_enter Try.func19, Try.ntmps19
    go_wp2_with fail
    rw [← hW1]
    refine (HG.out).mono ?_
    rintro e w2 ⟨rfl, b2⟩
    have p2 := p1.below' b2
    obtain ⟨k0, k1, k2, k3⟩ := p2.four
    go_wp2_with fail
    refine (HA.out _ b2).mono ?_
    rintro e w3 ⟨rfl, rfl⟩
    go_wp2_with fail
    refine (HBt.out _ b2).mono ?_
    rintro e w3 ⟨rfl, rfl⟩
    go_wp2_with fail
    go_ret2
    exact ⟨none, 0, 0, rfl, Own.nil_ _ _, by omega, B1.trans (b2.mono B1.size)⟩
  case pos =>
  have d2 : ((n2 : Int) != C.in1) = false := by simpa using l2
  have hok : asked C xs ys = true := by rw [HQ.out, decide_eq_true L1.out, decide_eq_true l2]; rfl
  clear l2
  have e := HM.out
  rw [m_WireValues, if_pos hok] at e
  obtain ⟨e1, rfl⟩ := Prod.mk.inj e
  have HR := Lib.hid e1
  obtain ⟨y1, y2, y3, y4, y5⟩ := asked_yes hok
  have hGood := gd_yes y1
  have hbits : Bits (xs ++ ys) := bits_append (bits_good y2) (bits_good y3)
  have hlen : ((n1 + n2 : Nat) : Int) = C.ins := by have := HX.out; have := HY.out; unfold Ci.ins; push_cast; omega
  obtain ⟨n1_20, n2_20⟩ : n1 ≤ 20 ∧ n2 ≤ 20 := by have := HX.out; have := HY.out; have := (good_yes y2).1; have := (good_yes y3).1; omega
  have HL := Lib.hid hlen
  have gl := Lib.hid (show C.gs.length ≤ 300 from hGood.g)
  clear e e1 hok y1 y2 y3 y4 y5 hlen
  go_enter Try.func19, Try.ntmps19
  go_wp2_with fail
  rw [← hW1]
  clear hW1
  refine (HG.out).mono ?_
  rintro e w2 ⟨rfl, b2⟩
  have p2 := p1.below' b2
  have h2 := h1.below b2
  have hx2 := hx1.below b2
  have hy2 := hy1.below b2
  have B2 := B1.trans (b2.mono B1.size)
  obtain ⟨k0, k1, k2, k3⟩ := p2.four
  clear p1 h1 hx1 hy1 B1 HG
  go_wp2_with fail
  refine (HA.out _ b2).mono ?_
  rintro e w3 ⟨rfl, rfl⟩
  go_wp2_with fail
  refine (HBt.out _ b2).mono ?_
  rintro e w3 ⟨rfl, rfl⟩
  clear b2 HA HBt
  go_wp2_with fail
  clear k0 k1 k2 k3 d1 d2
  have D0 : Below w2.heap.size w2 w2.drew := (Below.refl _ w2).drew
  have D1 : Below w2.heap.size w2 (w2.alloc (.cells #[.slice A n1 c1, .slice B n2 c2] 23)).drew := (belowNew w2 (.cells #[.slice A n1 c1, .slice B n2 c2] 23)).drew
  have hK : Hid (∀ W', Below w2.heap.size w2 W' → W'.cell? ⟨w.heap.size, 0, none⟩ = some (.int .i64 C.in0) ∧ W'.cell? ⟨w.heap.size, 1, none⟩ = some (.int .i64 C.in1) ∧ W'.cell? ⟨w.heap.size, 2, none⟩ = some (.slice G n c) ∧ W'.cell? ⟨w.heap.size, 3, none⟩ = some (.slice O q d)) := fun W' hb => (p2.below' hb).four
  have yl := Blk.new w2 #[.slice A n1 c1, .slice B n2 c2] 23
  have HJ := Lib.hid (concat2_any w2.heap.size A n1 c1 xs B n2 c2 ys (w2.alloc (.cells #[.slice A n1 c1, .slice B n2 c2] 23)).drew (yl.cell (i := 0) rfl) (yl.cell (i := 1) rfl) yl.lt (hx2.below D1) (by omega) hnil (hy2.below D1) (by omega) hnil2)
  have HV : Hid (∀ R c' W', Below w2.heap.size w2 W' → Own W' w2.heap.size R (n1 + n2) c' (xs ++ ys) → Calls Try.prog 53 #[.agg #[.int .i64 C.in0, .int .i64 C.in1, .slice G n c, .slice O q d], .slice R (n1 + n2) c'] W' fun e w' => ∃ R3 c3, e = .returned (.slice R3 (n1 + n2 + C.gs.length) c3) ∧ Own w' W'.heap.size R3 (n1 + n2 + C.gs.length) c3 (valsC C (xs ++ ys)) ∧ Below W'.heap.size W' w') := fun R c' W' hb ho => wireValues_any _ C R (n1 + n2) c' (xs ++ ys) W' (h2.below hb) hGood ho.has (own_nilOk ho) hbits HL.out
  clear yl
  first
    | go_region_held3 (fun w' => w'.cell? ⟨w.heap.size, 0, none⟩ = some (.int .i64 C.in0) ∧ w'.cell? ⟨w.heap.size, 1, none⟩ = some (.int .i64 C.in1) ∧ w'.cell? ⟨w.heap.size, 2, none⟩ = some (.slice G n c) ∧ w'.cell? ⟨w.heap.size, 3, none⟩ = some (.slice O q d)) (first | exact hK.out _ D0 | exact hK.out _ D1 | exact hK.out _ Bq | exact hK.out _ Br | go_keep) (first | (go_at_call 53; refine (HV.out R3 c3 w3 Bq (o3.mono D1.size)).mono ?_; rintro e w4 ⟨R4, c4, rfl, o4, b4⟩; have Br := Bq.trans (b4.mono Bq.size)) | (go_at_call 54; refine (HJ.out).mono ?_; rintro e w3 ⟨R3, c3, rfl, o3, b3⟩; have Bq := D1.trans (b3.mono D1.size)))
    | fail
  go_wp2_with fail
  go_ret2
  have := gl.out
  exact ⟨R4, _, c4, rfl, by rw [← HR.out]; exact o4.mono (Nat.le_trans B2.size Bq.size), by omega, B2.trans (Br.mono B2.size)⟩

end Go.Proofs.Ytaohgbkhmgfnhaa
