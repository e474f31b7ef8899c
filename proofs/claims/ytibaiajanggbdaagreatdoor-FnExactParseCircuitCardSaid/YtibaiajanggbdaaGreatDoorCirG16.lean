/- The model's text of a circuit. For every circuit of at most 1048576 gates and outs. -/
import Derived.Test.YtibaiajanggbdaaGreatDoorCirM7
import Derived.Test.YtibaiajanggbdaaGreatDoorCirG6
import Derived.Test.YtibaiajanggbdaaGreatDoorCirG3
import Derived.Deep.RegionHeld3
import Derived.Deep.CutBlock
namespace Go.Proofs.YtibaiajanggbdaaGreatDoor
open Go.RowKit
set_option maxRecDepth 100000

/-- The word of a kind. -/
def kindB (k : Int) : ByteArray := if k = 0 then ⟨#[120, 111, 114]⟩ else if k = 1 then ⟨#[97, 110, 100]⟩ else if k = 2 then ⟨#[110, 111, 116]⟩ else ⟨#[111, 110, 101]⟩
theorem kindB_is (k : Int) : kindB k = strOfNums (kindL k) := by
  unfold kindB kindL
  split
  · rfl
  · split
    · rfl
    · split <;> rfl
theorem kindB_size (k : Int) : (kindB k).size = 3 := by rw [kindB_is, strOfNums_size, kindL_length]
theorem kindCell {w : World} {g : Nat} {t : TypeId} {x : Nat} (h : Blk w g #[.string ⟨#[120, 111, 114]⟩, .string ⟨#[97, 110, 100]⟩, .string ⟨#[110, 111, 116]⟩, .string ⟨#[111, 110, 101]⟩] t) (hx : x < 4) : w.cell? ⟨g, x, none⟩ = some (.string (kindB (x : Int))) := by
  have : x = 0 ∨ x = 1 ∨ x = 2 ∨ x = 3 := by omega
  rcases this with rfl | rfl | rfl | rfl <;> exact h.cell rfl
theorem headB (ta tb : ByteArray) (a b : Nat) (ha : ta = strOfNums (numL a)) (hb : tb = strOfNums (numL b)) :
    (⟨#[99, 105, 114, 99, 117, 105, 116, 32]⟩ : ByteArray) ++ ta ++ ⟨#[32]⟩ ++ tb ++ ⟨#[10]⟩ = strOfNums ([99, 105, 114, 99, 117, 105, 116, 32] ++ numL a ++ [32] ++ numL b ++ [10]) := by
  have e1 : (⟨#[99, 105, 114, 99, 117, 105, 116, 32]⟩ : ByteArray) = strOfNums [99, 105, 114, 99, 117, 105, 116, 32] := rfl
  have e2 : (⟨#[32]⟩ : ByteArray) = strOfNums [32] := rfl
  have e3 : (⟨#[10]⟩ : ByteArray) = strOfNums [10] := rfl
  rw [e1, e2, e3, ha, hb]
  simp only [strOf_append]
theorem cat2 {a : Nat} (h : a ≤ 7) : ¬ (9223372036854775807 < 8 + a) ∧ ¬ (9223372036854775807 < 8 + a + 1) := by omega
theorem cat4 {a b : Nat} (h : a ≤ 7) (h' : b ≤ 7) : ¬ (9223372036854775807 < 8 + a + 1 + b) ∧ ¬ (9223372036854775807 < 8 + a + 1 + b + 1) := by omega
theorem numL_small7 {n : Nat} (h : n ≤ 1000000) : (numL n).length ≤ 7 := numL_length 6 n (by omega)

set_option maxRecDepth 100000 in
set_option maxHeartbeats 4000000 in
theorem ciText_any (v : Value) (C : Ci) (w : World) (h : HasC w v C) (hG : Good C) :
    Calls Tryz.prog 60 #[v] w fun e w' => ∃ t, e = .returned (.string t) ∧ Hid (t = strOfNums (textL C)) ∧ t.size ≤ 1048576 ∧ Below w.heap.size w w' := by
  obtain ⟨G, n, c, O, q, d, rfl, hGs, hO, _, _, _, _⟩ := id h
  have HN : Hid (C.gs.length = n) := hGs.1
  have HQ : Hid (C.os.length = q) := hO.1
  have n300 : n ≤ 300 := by have := hG.g; have := HN.out; omega
  have q40 : q ≤ 40 := by have := hG.o; have := HQ.out; omega
  obtain ⟨i0, i1, j0, j1⟩ : 0 ≤ C.in0 ∧ C.in0 ≤ 20 ∧ 0 ≤ C.in1 ∧ C.in1 ≤ 20 := ⟨hG.a0, hG.a1, hG.b0, hG.b1⟩
  obtain ⟨a, ha⟩ : ∃ a : Nat, C.in0 = (a : Int) := ⟨C.in0.toNat, by omega⟩
  obtain ⟨b, hb⟩ : ∃ b : Nat, C.in1 = (b : Int) := ⟨C.in1.toNat, by omega⟩
  have a20 : a ≤ 20 := by omega
  have b20 : b ≤ 20 := by omega
  have HHead : Hid (headL C = [99, 105, 114, 99, 117, 105, 116, 32] ++ numL a ++ [32] ++ numL b ++ [10]) := by show _ = _; rw [headL, show C.in0.toNat = a by omega, show C.in1.toNat = b by omega]
  have HGate : Hid (∀ k, k < n → gateOk (C.ins + (k : Int)) (C.gs.getD k g0) = true ∧ C.ins + (k : Int) ≤ 340) := fun k hk => ⟨hG.gate k (by have := HN.out; omega), by
    have h3 : C.ins = C.in0 + C.in1 := rfl
    omega⟩
  have HOut : Hid (∀ j, j < q → 0 ≤ C.os.getD j 0 ∧ C.os.getD j 0 ≤ 340) := fun j hj => by
    have h5 := hG.out j (by have := HQ.out; omega)
    have h2 : C.wires = C.ins + (C.gs.length : Int) := rfl
    have h3 : C.ins = C.in0 + C.in1 := rfl
    have := HN.out
    omega
  rw [ha, hb]
  have B1 := belowNew w (.cells #[.int .i64 (a : Int), .int .i64 (b : Int), .slice G n c, .slice O q d] 27)
  have p1 := Blk.new w #[.int .i64 (a : Int), .int .i64 (b : Int), .slice G n c, .slice O q d] 27
  obtain ⟨W1, hW1⟩ : ∃ W, W = w.alloc (.cells #[.int .i64 (a : Int), .int .i64 (b : Int), .slice G n c, .slice O q d] 27) := ⟨_, rfl⟩
  rw [← hW1] at B1 p1
  have hlt0 : w.heap.size < W1.heap.size := p1.lt
  have D : Below W1.heap.size W1 W1.drew := (Below.refl _ W1).drew
  have hK : Hid (∀ W', Below W1.heap.size W1 W' → W'.cell? ⟨w.heap.size, 0, none⟩ = some (.int .i64 (a : Int)) ∧ W'.cell? ⟨w.heap.size, 1, none⟩ = some (.int .i64 (b : Int)) ∧ W'.cell? ⟨w.heap.size, 2, none⟩ = some (.slice G n c) ∧ W'.cell? ⟨w.heap.size, 3, none⟩ = some (.slice O q d)) := fun W' hb => (p1.below' hb).four
  have hG1 := Lib.hid (hGs.below B1)
  have hO1 := Lib.hid (hO.below B1)
  have HA := Lib.hid (fun w => l1Num_any a w (by omega))
  have HB := Lib.hid (fun w => l1Num_any b w (by omega))
  clear h hGs hO hG ha hb i0 i1 j0 j1
  go_enter Tryz.func60, Tryz.ntmps60
  go_wp2_with fail
  rw [← hW1]
  clear hW1
  go_cut [3] (fun v wx => ∃ t, v = .string t ∧ Hid (t = strOfNums (headL C)) ∧ t.size ≤ 24 ∧ Below W1.heap.size W1 wx)
  case first =>
    first
      | (go_region_held3 (fun W' => W'.cell? ⟨w.heap.size, 0, none⟩ = some (.int .i64 (a : Int)) ∧ W'.cell? ⟨w.heap.size, 1, none⟩ = some (.int .i64 (b : Int)) ∧ W'.cell? ⟨w.heap.size, 2, none⟩ = some (.slice G n c) ∧ W'.cell? ⟨w.heap.size, 3, none⟩ = some (.slice O q d)) (first | exact hK.out _ D | exact hK.out _ Ba | exact hK.out _ Bb | go_keep) (first
          | (go_at_call 96; refine (HA.out wb).mono ?_; rintro e wa ⟨ta, rfl, HTa, hta, ba⟩; have Ba := Bb.trans (ba.mono Bb.size); have j1 := (cat2 hta).1; have j2 := (cat2 hta).2; have j3 := (cat4 hta htb).1; have j4 := (cat4 hta htb).2)
          | (go_at_call 96; refine (HB.out wa).mono ?_; rintro e wb ⟨tb, rfl, HTb, htb, bb⟩; have Bb := Ba.trans (bb.mono Ba.size); have j3 := (cat4 hta htb).1; have j4 := (cat4 hta htb).2)
          | (go_at_call 96; refine (HA.out W1.drew).mono ?_; rintro e wa ⟨ta, rfl, HTa, hta, ba⟩; have Ba := D.trans (ba.mono D.size); have j1 := (cat2 hta).1; have j2 := (cat2 hta).2)
          | (go_at_call 96; refine (HB.out W1.drew).mono ?_; rintro e wb ⟨tb, rfl, HTb, htb, bb⟩; have Bb := D.trans (bb.mono D.size))))
      | fail
    all_goals
      have HE : Hid ((⟨#[99, 105, 114, 99, 117, 105, 116, 32]⟩ : ByteArray) ++ ta ++ ⟨#[32]⟩ ++ tb ++ ⟨#[10]⟩ = strOfNums (headL C)) := by show _ = _; rw [HHead.out]; exact headB ta tb a b HTa.out HTb.out
      have hsz : ((⟨#[99, 105, 114, 99, 117, 105, 116, 32]⟩ : ByteArray) ++ ta ++ ⟨#[32]⟩ ++ tb ++ ⟨#[10]⟩).size ≤ 24 := by simp only [ByteArray.size_append]; show 8 + _ + 1 + _ + 1 ≤ 24; omega
      go_wp2_with fail
      go_meet
      first
        | exact ⟨_, rfl, HE, hsz, Bb⟩
        | exact ⟨_, rfl, HE, hsz, Ba⟩
  case rest =>
  obtain ⟨t, rfl, HT, hts, bx⟩ := hcut
  obtain ⟨w2, rfl⟩ : ∃ x, x = wc := ⟨_, rfl⟩
  obtain ⟨k0, k1, k2, k3⟩ := hK.out _ bx
  have HT0 : Hid (t = strOfNums (headL C ++ gatesL C 0)) := by show _ = _; rw [HT.out, gatesL, List.append_nil]
  have HBX := Lib.hid bx
  clear D HA HB HHead HT bx p1
  go_wp2_with fail
  clear k0 k1 k2 k3
  go_loopw [3, 23] (fun v i wr => ∃ (k : Nat) (t : ByteArray), k ≤ n ∧ i = .int .i64 k ∧ v = .string t ∧ Hid (t = strOfNums (headL C ++ gatesL C k)) ∧ t.size ≤ 24 + 20 * k ∧ Below W1.heap.size W1 wr) (fun _ i _ => n - (intOf i).toNat)
  case atStart => exact ⟨0, t, Nat.zero_le _, rfl, rfl, HT0, by omega, HBX.out⟩
  case round =>
    obtain ⟨k, t, hk, rfl, rfl, HTk, htk, bk⟩ := hrel
    by_cases hlt : k < n
    · obtain ⟨ad, x, y, z, rfl, hgx, hgy, hgz, HE⟩ := (hG1.out.below bk).elem hlt
      obtain ⟨hgate, hins⟩ := HGate.out k hlt
      rw [HE.out] at hgate
      obtain ⟨xk, rfl, xk4⟩ : ∃ xk : Nat, x = (xk : Int) ∧ xk < 4 := by
        rcases gateOk_yes hgate with ⟨h | h, _⟩ | ⟨h, _⟩ | ⟨h, _⟩
        · exact ⟨0, h, by omega⟩
        · exact ⟨1, h, by omega⟩
        · exact ⟨2, h, by omega⟩
        · exact ⟨3, h, by omega⟩
      have HP : Hid (∀ j, j < (partsOf ((xk : Int), y, z)).length → 0 ≤ (partsOf ((xk : Int), y, z)).getD j 0 ∧ (partsOf ((xk : Int), y, z)).getD j 0 ≤ 340) := fun j hj => by have := partsOf_in hgate j hj; omega
      have HS : Hid (gatesL C (k + 1) = gatesL C k ++ (kindL (xk : Int) ++ numsL (partsOf ((xk : Int), y, z)) ++ [10])) := by show _ = _; rw [gatesL, HE.out]; rfl
      have b4 := belowNew wr (.cells #[.int .i64 (xk : Int), .int .i64 y, .int .i64 z] 51)
      have y4 := Blk.new wr #[.int .i64 (xk : Int), .int .i64 y, .int .i64 z] 51
      obtain ⟨w4, hw4⟩ : ∃ W, W = wr.alloc (.cells #[.int .i64 (xk : Int), .int .i64 y, .int .i64 z] 51) := ⟨_, rfl⟩
      rw [← hw4] at b4 y4
      have B4 := bk.trans (b4.mono bk.size)
      have q0 : (0 : Int) ≤ (k : Int) := by omega
      have q1 : (k : Int) < (n : Int) := by omega
      have g0c := y4.cell (i := 0) rfl
      have g1c := y4.cell (i := 1) rfl
      have g2c := y4.cell (i := 2) rfl
      clear hgate hins HE b4 bk
      go_upto_region 5 with fail
      rw [← hw4]
      clear hw4 hgx hgy hgz
      have b5 := belowNew w4 (.cells #[.string ⟨#[120, 111, 114]⟩, .string ⟨#[97, 110, 100]⟩, .string ⟨#[110, 111, 116]⟩, .string ⟨#[111, 110, 101]⟩] 9)
      have z5 := Blk.new w4 #[.string ⟨#[120, 111, 114]⟩, .string ⟨#[97, 110, 100]⟩, .string ⟨#[110, 111, 116]⟩, .string ⟨#[111, 110, 101]⟩] 9
      have kc := kindCell z5 xk4
      have y5 := y4.below' b5
      obtain ⟨w5, hw5⟩ : ∃ W, W = w4.alloc (.cells #[.string ⟨#[120, 111, 114]⟩, .string ⟨#[97, 110, 100]⟩, .string ⟨#[110, 111, 116]⟩, .string ⟨#[111, 110, 101]⟩] 9) := ⟨_, rfl⟩
      rw [← hw5] at b5 y5
      have B5 := B4.trans (b5.mono B4.size)
      have e0 : (0 : Int) ≤ (xk : Int) := by omega
      have e1 : (xk : Int) < 4 := by omega
      obtain ⟨kw, hkw⟩ : ∃ kw, kindB (xk : Int) = kw := ⟨_, rfl⟩
      have kws : kw.size = 3 := by rw [← hkw]; exact kindB_size _
      rw [hkw] at kc
      have HKW : Hid (kw = strOfNums (kindL (xk : Int))) := by show _ = _; rw [← hkw]; exact kindB_is _
      clear g0c g1c g2c y4 z5 hkw B4 b5
      obtain ⟨g0c, g1c, g2c⟩ := And.intro (y5.cell (i := 0) rfl) (And.intro (y5.cell (i := 1) rfl) (y5.cell (i := 2) rfl))
      rw [hw5] at g0c g1c g2c
      go_wp2_with fail
      rw [← hw5]
      clear hw5 g0c g1c g2c kc y5
      refine (ciParts_any (xk : Int) y z w5).mono ?_
      rintro e w6 ⟨R6, np, c6, rfl, o6, np2, b6⟩
      have B6 := Lib.hid (B5.trans (b6.mono B5.size))
      have H6 := Lib.hid o6.has
      have HNP : Hid ((partsOf ((xk : Int), y, z)).length = np) := o6.has.1
      obtain ⟨tk, htk'⟩ : ∃ tk, t ++ kw = tk := ⟨_, rfl⟩
      have hts6 : tk.size ≤ 27 + 20 * k := by rw [← htk', ByteArray.size_append]; omega
      have HTK : Hid (tk = strOfNums (headL C ++ gatesL C k ++ kindL (xk : Int))) := by show _ = _; rw [← htk', HTk.out, HKW.out, strOf_append]
      rw [htk']
      clear htk' HTk HKW kws htk B5 b6 o6
      go_wp2_with fail
      go_loopw [3, 37] (fun v i wx => ∃ (j : Nat) (s : ByteArray), j ≤ np ∧ i = .int .i64 j ∧ v = .string s ∧ Hid (s = strOfNums (headL C ++ gatesL C k ++ kindL (xk : Int) ++ numsL ((partsOf ((xk : Int), y, z)).take j))) ∧ s.size ≤ 27 + 20 * k + 8 * j ∧ Below w6.heap.size w6 wx) (fun _ i _ => np - (intOf i).toNat)
      case atStart => exact ⟨0, tk, Nat.zero_le _, rfl, rfl, by show _ = _; rw [HTK.out]; simp [numsL], by omega, Below.refl _ _⟩
      case round =>
        obtain ⟨j, s, hj, rfl, rfl, HTs, hss, bj⟩ := hrel
        by_cases hjl : j < np
        · obtain ⟨ap, p, rfl, hcp, HP2⟩ := (H6.out.below bj).elem hjl
          obtain ⟨p0, p1⟩ : 0 ≤ p ∧ p ≤ 340 := by rw [HP2.out]; exact HP.out j (by rw [HNP.out]; exact hjl)
          obtain ⟨pn, rfl⟩ : ∃ pn : Nat, p = (pn : Int) := ⟨p.toNat, by omega⟩
          have HSt : Hid (numsL ((partsOf ((xk : Int), y, z)).take (j + 1)) = numsL ((partsOf ((xk : Int), y, z)).take j) ++ ([32] ++ numL pn)) := by
            show _ = _
            rw [numsL_step _ j (by rw [HNP.out]; exact hjl), ← HP2.out]
            rfl
          have f0 : (0 : Int) ≤ (j : Int) := by omega
          have f1 : (j : Int) < (np : Int) := by omega
          have bjh := Lib.hid bj
          clear bj HP2
          go_wp2_with fail
          refine (l1Num_any pn wr (by omega)).mono ?_
          rintro e w8 ⟨u, rfl, HU, hus, b8⟩
          have B8 := bjh.out.trans (b8.mono bjh.out.size)
          clear hcp b8
          go_wp2_with fail
          go_roundw
          case rel => exact ⟨j + 1, _, by omega, by go_num, rfl, by
            show _ = _
            rw [HSt.out, HTs.out, HU.out, show (⟨#[32]⟩ : ByteArray) = strOfNums [32] from rfl, strOf_append, strOf_append]
            simp only [List.append_assoc], by
            simp only [ByteArray.size_append]
            show s.size + (1 + u.size) ≤ _
            omega, B8⟩
          case measure => simp [intOf]; omega
        · obtain rfl : np = j := by omega
          have bjh := Lib.hid (B6.out.trans (bj.mono B6.out.size))
          clear bj
          rw [List.take_of_length_le (by rw [HNP.out]; exact Nat.le_refl _)] at HTs
          go_wp2_with fail
          go_roundw
          case rel => exact ⟨k + 1, _, by omega, by go_num, rfl, by
            show _ = _
            rw [HS.out, HTs.out, show (⟨#[10]⟩ : ByteArray) = strOfNums [10] from rfl, strOf_append]
            simp only [List.append_assoc], by
            simp only [ByteArray.size_append]
            show s.size + 1 ≤ _
            omega, bjh.out⟩
          case measure => simp [intOf]; omega
    · obtain rfl : n = k := by omega
      obtain ⟨k0, k1, k2, k3⟩ := hK.out _ bk
      have HBK := Lib.hid bk
      have hOb := Lib.hid (hO1.out.below bk)
      clear bk
      go_wp2_with fail
      obtain ⟨tq, hto⟩ : ∃ tq, t ++ (⟨#[111, 117, 116, 115]⟩ : ByteArray) = tq := ⟨_, rfl⟩
      have htos : tq.size ≤ 28 + 20 * n := by rw [← hto, ByteArray.size_append]; show t.size + 4 ≤ _; omega
      have HTO : Hid (tq = strOfNums (headL C ++ gatesL C n ++ [111, 117, 116, 115])) := by show _ = _; rw [← hto, HTk.out, show (⟨#[111, 117, 116, 115]⟩ : ByteArray) = strOfNums [111, 117, 116, 115] from rfl, strOf_append]
      rw [hto]
      clear hto htk HTk k0 k1 k2 k3
      go_loopw [3, 55] (fun v i wx => ∃ (j : Nat) (s : ByteArray), j ≤ q ∧ i = .int .i64 j ∧ v = .string s ∧ Hid (s = strOfNums (headL C ++ gatesL C n ++ [111, 117, 116, 115] ++ numsL (C.os.take j))) ∧ s.size ≤ 28 + 20 * n + 8 * j ∧ Below wr.heap.size wr wx) (fun _ i _ => q - (intOf i).toNat)
      case atStart => exact ⟨0, tq, Nat.zero_le _, rfl, rfl, by show _ = _; rw [HTO.out]; simp [numsL], by omega, Below.refl _ _⟩
      case round =>
        obtain ⟨j, s, hj, rfl, rfl, HTs, hss, bj⟩ := hrel
        by_cases hjl : j < q
        · obtain ⟨ap, p, rfl, hcp, HP2⟩ := (hOb.out.below bj).elem hjl
          obtain ⟨p0, p1⟩ : 0 ≤ p ∧ p ≤ 340 := by rw [HP2.out]; exact HOut.out j hjl
          obtain ⟨pn, rfl⟩ : ∃ pn : Nat, p = (pn : Int) := ⟨p.toNat, by omega⟩
          have HSt : Hid (numsL (C.os.take (j + 1)) = numsL (C.os.take j) ++ ([32] ++ numL pn)) := by
            show _ = _
            rw [numsL_step _ j (by rw [HQ.out]; exact hjl), ← HP2.out]
            rfl
          have f0 : (0 : Int) ≤ (j : Int) := by omega
          have f1 : (j : Int) < (q : Int) := by omega
          have bjh := Lib.hid bj
          clear bj HP2
          go_wp2_with fail
          refine (l1Num_any pn wr (by omega)).mono ?_
          rintro e w8 ⟨u, rfl, HU, hus, b8⟩
          have B8 := bjh.out.trans (b8.mono bjh.out.size)
          clear hcp b8
          go_wp2_with fail
          go_roundw
          case rel => exact ⟨j + 1, _, by omega, by go_num, rfl, by
            show _ = _
            rw [HSt.out, HTs.out, HU.out, show (⟨#[32]⟩ : ByteArray) = strOfNums [32] from rfl, strOf_append, strOf_append]
            simp only [List.append_assoc], by
            simp only [ByteArray.size_append]
            show s.size + (1 + u.size) ≤ _
            omega, B8⟩
          case measure => simp [intOf]; omega
        · obtain rfl : q = j := by omega
          have bjh := Lib.hid (HBK.out.trans (bj.mono HBK.out.size))
          clear bj
          rw [List.take_of_length_le (by rw [HQ.out]; exact Nat.le_refl _)] at HTs
          go_wp2_with fail
          go_ret
          exact ⟨_, rfl, by
            show _ = _
            rw [textL, HN.out, HTs.out, show (⟨#[10]⟩ : ByteArray) = strOfNums [10] from rfl, strOf_append], by
            simp only [ByteArray.size_append]
            show s.size + 1 ≤ _
            omega, B1.trans (bjh.out.mono B1.size)⟩

end Go.Proofs.YtibaiajanggbdaaGreatDoor
