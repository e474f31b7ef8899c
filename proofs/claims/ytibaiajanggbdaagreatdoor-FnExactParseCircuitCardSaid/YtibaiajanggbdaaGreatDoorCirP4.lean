/- The model's ciLine: a line of a text added to a circuit. For every line of at most 1048577 words and every circuit of at most 1048576 gates and outs. -/
import Derived.Test.YtibaiajanggbdaaGreatDoorCirP3
namespace Go.Proofs.YtibaiajanggbdaaGreatDoor
open Go Go.RowKit
set_option maxRecDepth 100000

theorem len3 {n : Nat} {b : Bool} (h : ((n : Int) == 3) = b) (hb : b = true) : n = 3 := by
  rw [hb] at h
  have : (n : Int) = 3 := by simpa using h
  omega
theorem len2 {n : Nat} {b : Bool} (h : ((n : Int) == 2) = b) (hb : b = true) : n = 2 := by
  rw [hb] at h
  have : (n : Int) = 2 := by simpa using h
  omega

set_option maxRecDepth 100000 in
set_option maxHeartbeats 64000000 in
theorem ciLine_any (N q B n : Nat) (C : Ci) (v : Value) (ws : List ByteArray) (w : World) (hp : PtrC w N q C) (hs : Strs w B v n ws) (hn : 1 ≤ n) (hn2 : n ≤ 1048577) (hg : C.gs.length ≤ 1048577) (ho : C.os.length ≤ 1048577)
    (hz : ∀ j, j < n → (wordAt ws j).size ≤ 1048576) :
    Calls Tryz.prog 108 #[.pointer (some ⟨q, 0, none⟩), v] w fun e w' => e = .returned (.tuple #[]) ∧ PtrC w' N q (lineC C ws) ∧ Past N q w w' := by
  obtain ⟨g, cp, rfl, hgw, hnc, hcell⟩ := wordsAt hs hn
  obtain ⟨x0, hx0⟩ : ∃ x, wordAt ws 0 = x := ⟨_, rfl⟩
  have hc0 := hcell 0 (by omega)
  rw [hx0] at hc0
  have HLen : Hid (ws.length = n) := hs.1
  have HZ := Lib.hid hz
  have HC := Lib.hid hcell
  have HP := Lib.hid hp
  have HS := Lib.hid hs
  have HX := Lib.hid hx0
  have b1 := belowNew w (.cells #[.string ⟨#[120, 111, 114]⟩, .string ⟨#[97, 110, 100]⟩, .string ⟨#[110, 111, 116]⟩, .string ⟨#[111, 110, 101]⟩] 9)
  have y1 := Blk.new w #[.string ⟨#[120, 111, 114]⟩, .string ⟨#[97, 110, 100]⟩, .string ⟨#[110, 111, 116]⟩, .string ⟨#[111, 110, 101]⟩] 9
  obtain ⟨w1, hw1⟩ : ∃ W, W = w.alloc (.cells #[.string ⟨#[120, 111, 114]⟩, .string ⟨#[97, 110, 100]⟩, .string ⟨#[110, 111, 116]⟩, .string ⟨#[111, 110, 101]⟩] 9) := ⟨_, rfl⟩
  rw [← hw1] at b1 y1
  have hc1 := (World.cell?_of_block (b1.block _ hgw)).trans hc0
  have n0 : (0 : Int) < (n : Int) := by omega
  clear hz hcell hp hs hx0 hc0
  go_enter Tryz.func108, Tryz.ntmps108
  go_wp2_with fail
  rw [← hw1]
  clear hw1
  go_loopw [4, 11] (fun v i wr => ∃ (k : Nat), k ≤ 4 ∧ i = .int .i64 k ∧ v = .int .i64 (kindTo x0 k) ∧ wr = w1) (fun _ i _ => 4 - (intOf i).toNat)
  case atStart => exact ⟨0, by omega, rfl, rfl, rfl⟩
  case round =>
    obtain ⟨k, hk, rfl, rfl, rfl⟩ := hrel
    by_cases hlt : k < 4
    · have kc := kindCell y1 hlt
      obtain ⟨kw, hkw⟩ : ∃ kw, kindB (k : Int) = kw := ⟨_, rfl⟩
      rw [hkw] at kc
      have p0 : (0 : Int) ≤ (k : Int) := by omega
      have p1 : (k : Int) < 4 := by omega
      obtain ⟨bq, hbq⟩ : ∃ bq, (kw.toList == x0.toList) = bq := ⟨_, rfl⟩
      have HK : Hid (kindTo x0 (k + 1) = if bq = true then (k : Int) else kindTo x0 k) := by show _ = _; rw [kindTo, hkw, same, hbq]
      clear hkw
      cases bq with
      | true =>
        go_wp2_with fail
        go_roundw
        case rel => exact ⟨k + 1, by omega, by go_num, by rw [HK.out]; rfl, (by first | rfl | trivial)⟩
        case measure => simp [intOf]; omega
      | false =>
        go_wp2_with fail
        go_roundw
        case rel => exact ⟨k + 1, by omega, by go_num, by rw [HK.out]; rfl, (by first | rfl | trivial)⟩
        case measure => simp [intOf]; omega
    · obtain rfl : k = 4 := by omega
      have HK0 := Lib.hid (kindTo_range x0 4)
      obtain ⟨kd, hkd⟩ : ∃ kd, kindTo x0 4 = kd := ⟨_, rfl⟩
      rw [hkd]
      rw [hkd] at HK0
      have HKd := Lib.hid hkd
      have p1 := HP.out.below b1
      have s1 := HS.out.below b1
      have HP1 := Lib.hid p1
      have HS1 := Lib.hid s1
      have HB1 := Lib.hid b1
      have HC1 : Hid (∀ j, j < n → wr.cell? ⟨g, j, none⟩ = some (.string (wordAt ws j))) := fun j hj => (World.cell?_of_block (b1.block _ hgw)).trans (HC.out j hj)
      have HN : Hid (N ≤ w.heap.size) := HP.out.2.1
      clear y1 p1 s1 hkd
      obtain ⟨b2, hb2⟩ : ∃ b, same x0 circB = b := ⟨_, rfl⟩
      obtain ⟨b3, hb3⟩ : ∃ b, ((n : Int) == 3) = b := ⟨_, rfl⟩
      have hb2' : (x0.toList == [99, 105, 114, 99, 117, 105, 116]) = b2 := by rw [← circB_list]; exact hb2
      have HB2 := Lib.hid hb2
      have HB3 := Lib.hid hb3
      clear hb2
      go_upto_region 7 with fail
      go_cut [23] (fun vq wx => vq = .bool (b2 && b3) ∧ wx = wr)
      case first =>
        cases b2 with
        | false =>
          go_wp2_with fail
          go_meet
          exact ⟨by simp, rfl⟩
        | true =>
          go_wp2_with fail
          go_meet
          exact ⟨by simp, rfl⟩
      case rest =>
      obtain ⟨rfl, rfl⟩ := hcut
      clear hb2' hb3
      have hsame := HB2.out
      cases hA : (b2 && b3) with
      | true =>
        have HL : Hid (lineC C ws = ⟨readB (wordAt ws 1), readB (wordAt ws 2), C.gs, C.os⟩) := by
          show _ = _
          rw [lineC, if_pos]
          rw [HX.out, HB2.out, HLen.out, HB3.out]
          exact hA
        obtain ⟨rfl, rfl⟩ : b2 = true ∧ b3 = true := by simpa using hA
        obtain rfl : n = 3 := len3 HB3.out rfl
        obtain ⟨_, _, G, gn, gc, O, om, od, p, _, _⟩ := HP1.out
        obtain ⟨k0, k1, k2, k3⟩ := p.four
        have f0 := p.free 0
        obtain ⟨x1, hx1⟩ : ∃ x, wordAt ws 1 = x := ⟨_, rfl⟩
        obtain ⟨r1, hr1⟩ : ∃ r, readB (wordAt ws 1) = r := ⟨_, rfl⟩
        obtain ⟨r2, hr2⟩ : ∃ r, readB (wordAt ws 2) = r := ⟨_, rfl⟩
        rw [hr1, hr2] at HL
        have c1 := HC1.out 1 (by omega)
        have z1 := HZ.out 1 (by omega)
        rw [hx1] at c1 z1 hr1
        have HR1 := Lib.hid hr1
        have HR2 := Lib.hid hr2
        have P5 := HP1.out.set0 r1
        have S5 := Strs.box (j := 0) (u := .int .i64 r1) HS1.out p
        obtain ⟨w5, hw5⟩ : ∃ W, W = wc.setCell ⟨q, 0, none⟩ (.int .i64 r1) := ⟨_, rfl⟩
        rw [← hw5] at P5 S5
        clear hr1 hr2 hsame hA
        go_upto_region 9 with (go_at_call 122; refine (l1Read_any x1 r1 _ z1 HR1.out).mono ?_; rintro e w4 ⟨rfl, rfl⟩)
        rw [← hw5]
        clear hw5 k0 k1 k2 k3 f0 p c1 z1
        obtain ⟨_, _, G, gn, gc, O, om, od, p, _, _⟩ := P5.1
        obtain ⟨k0, k1, k2, k3⟩ := p.four
        have f1 := p.free 1
        have c2 := wordsIn S5 2 (by omega)
        have z2 := HZ.out 2 (by omega)
        obtain ⟨x2, hx2⟩ : ∃ x, wordAt ws 2 = x := ⟨_, rfl⟩
        have hr2 := HR2.out
        rw [hx2] at c2 z2 hr2
        have HR2' := Lib.hid hr2
        clear hr2
        have P6 := P5.1.set1 r2
        obtain ⟨w6, hw6⟩ : ∃ W, W = w5.setCell ⟨q, 1, none⟩ (.int .i64 r2) := ⟨_, rfl⟩
        rw [← hw6] at P6
        go_wp2_with (go_at_call 122; refine (l1Read_any x2 r2 _ z2 HR2'.out).mono ?_; rintro e w4 ⟨rfl, rfl⟩)
        rw [← hw6]
        go_end0
        refine ⟨rfl, ?_, ((Past.of (HB1.out.mono HN.out)).trans P5.2).trans P6.2⟩
        rw [HL.out]
        exact P6.1
      | false =>
        obtain ⟨b4, hb4⟩ : ∃ b, same x0 outsB = b := ⟨_, rfl⟩
        have hb4' : (x0.toList == [111, 117, 116, 115]) = b4 := by rw [← outsB_list]; exact hb4
        have HB4 := Lib.hid hb4
        have HA0 : Hid (¬ ((same (wordAt ws 0) circB && ((ws.length : Int) == 3)) = true)) := by
          show ¬ _
          rw [HX.out, HB2.out, HLen.out, HB3.out, hA]
          simp
        have HA := Lib.hid hA
        clear hsame hA hb4
        cases b4 with
        | true =>
          have HL : Hid (lineC C ws = ⟨C.in0, C.in1, C.gs, C.os ++ (ws.drop 1).map readB⟩) := by
            show _ = _
            rw [lineC, if_neg HA0.out, if_pos (by rw [HX.out]; exact HB4.out)]
          have n1 : (1 : Int) ≤ (n : Int) := by omega
          have cpn : (n : Int) ≤ (cp : Int) := by omega
          go_upto_region 11 with fail
          go_cut [53, 54, 55] (fun sv lv iv wx => ∃ (ad : Addr) (lm lc : Nat), sv = .slice (some ad) lm lc ∧ lv = .int .i64 (lm : Int) ∧ iv = .int .i64 0 ∧ lm + 1 = n ∧ (0 < lm → ad = ⟨g, 1, none⟩) ∧ wx = wc)
          case first =>
            by_cases hcp : cp = 1
            · subst hcp
              go_wp2_with fail
              go_meet
              exact ⟨_, _, _, rfl, rfl, rfl, by omega, fun hj => by omega, rfl⟩
            · go_wp2_with fail
              go_meet
              exact ⟨_, _, _, rfl, rfl, rfl, by omega, fun _ => rfl, rfl⟩
          case rest =>
          obtain ⟨ad, lm, lc, rfl, rfl, rfl, hlm, hcl, hwx⟩ := hcut
          obtain ⟨w2, rfl⟩ : ∃ x, x = wc := ⟨_, rfl⟩
          subst hwx
          have HPd : Hid (PtrC w2 N q ⟨C.in0, C.in1, C.gs, C.os ++ ((ws.drop 1).take 0).map readB⟩) := by
            show PtrC _ _ _ _
            have : C.os ++ ((ws.drop 1).take 0).map readB = C.os := by simp
            rw [this]
            exact HP1.out
          have HAd := Lib.hid hcl
          clear hcl
          go_wp2_with fail
          go_loopw [55] (fun i wr => ∃ (k : Nat), k ≤ lm ∧ i = .int .i64 k ∧ PtrC wr N q ⟨C.in0, C.in1, C.gs, C.os ++ ((ws.drop 1).take k).map readB⟩ ∧ Strs wr B (.slice (some ⟨g, 0, none⟩) n cp) n ws ∧ Past N q w2 wr) (fun i _ => lm - (intOf i).toNat)
          case atStart => exact ⟨0, Nat.zero_le _, rfl, HPd.out, HS1.out, Past.refl _ _ _⟩
          case round =>
            obtain ⟨k, hk, rfl, hp, hs, bk⟩ := hrel
            by_cases hlt : k < lm
            · have c1 : wr.cell? (ad.add k) = some (.string (wordAt ws (1 + k))) := by
                rw [HAd.out (by omega), Lib.add_plain]
                exact wordsIn hs (1 + k) (by omega)
              obtain ⟨x1, hx1⟩ : ∃ x, wordAt ws (1 + k) = x := ⟨_, rfl⟩
              have z1 := HZ.out (1 + k) (by omega)
              rw [hx1] at c1 z1
              obtain ⟨r1, hr1⟩ : ∃ r, readB x1 = r := ⟨_, rfl⟩
              have HR1 := Lib.hid hr1
              have HV : Hid (C.os ++ ((ws.drop 1).take (k + 1)).map readB = (C.os ++ ((ws.drop 1).take k).map readB) ++ [r1]) := by
                show _ = _
                have hl : k < (ws.drop 1).length := by rw [List.length_drop, HLen.out]; omega
                have e : (ws.drop 1).take (k + 1) = (ws.drop 1).take k ++ [x1] := by
                  rw [List.take_add_one, List.getElem?_eq_getElem hl, Option.toList_some]
                  congr 2
                  rw [← hx1, wordAt, List.getD_eq_getElem?_getD, List.getElem_drop, List.getElem?_eq_getElem (by rw [List.length_drop] at hl; omega)]
                  rfl
                rw [e, List.map_append, List.map_cons, List.map_nil, hr1, List.append_assoc]
              obtain ⟨h1, h2, G, gn, gc, O, om, od, p, hgg, hoo⟩ := hp
              have hom : om ≤ 2097153 := by
                have := hoo.1
                simp only [List.length_append, List.length_map, List.length_take, List.length_drop] at this
                have := HLen.out
                omega
              have k3 := p.cell (i := 3) rfl
              have f3 := p.free 3
              have p0 : (0 : Int) ≤ (k : Int) := by omega
              have p1 : (k : Int) < (lm : Int) := by omega
              have b6 := belowNew wr (.cells #[.int .i64 r1] 3)
              have k3a := (p.below' b6).cell (i := 3) rfl
              have f3a := (p.below' b6).free 3
              clear hx1 hr1
              go_wp2_with fail
              go_region_law (first
                | (refine stepIntG (wr.alloc (.cells #[.int .i64 r1] 3)).drew rfl (.tmp 63) (.tmp 66) rfl r1 N O om od _ wr.heap.size (by simp [Act.eval]) (by simp [Act.eval]) ((Blk.new wr #[.int .i64 r1] 3).cell (i := 0) rfl) (hoo.below b6.drew) (by omega) (Nat.le_trans h2 b6.size) ?_; intro g5 c5 w5 own5 G5; have G6 := grownAfter (w' := (wr.alloc (.cells #[.int .i64 r1] 3)).drew) b6.drew G5; have PO := PtrC.putO (C := ⟨C.in0, C.in1, C.gs, C.os ++ ((ws.drop 1).take k).map readB⟩) h1 h2 p hgg hoo G6 own5; have k5 := PO.1.cell (i := 3) rfl; have f5 := PO.1.free 3)
                | (go_simp; go_at_call_of 122 x1; refine (l1Read_any x1 r1 _ z1 HR1.out).mono ?_; rintro e w4 ⟨rfl, rfl⟩; dsimp only))
              all_goals
                go_wp2_with fail
                go_roundw
                case rel => exact ⟨k + 1, by omega, by go_num, by have P5 := PO.2.1; rw [← HV.out] at P5; simpa using P5, Strs.box (hs.apartI hoo G6) PO.1, bk.trans PO.2.2⟩
                case measure => simp [intOf]; omega
            · obtain rfl : k = lm := by omega
              have HE : Hid (lineC C ws = ⟨C.in0, C.in1, C.gs, C.os ++ ((ws.drop 1).take k).map readB⟩) := by
                show _ = _
                rw [HL.out, List.take_of_length_le (by rw [List.length_drop, HLen.out]; omega)]
              go_wp2_with fail
              go_end0
              exact ⟨rfl, by rw [HE.out]; exact hp, (Past.of (HB1.out.mono HN.out)).trans bk⟩
        | false =>
          have HB0 : Hid (¬ (same (wordAt ws 0) outsB = true)) := by
            show ¬ _
            rw [HX.out, HB4.out]
            simp
          have hkd0 : kindTo (wordAt ws 0) 4 = kd := by rw [HX.out]; exact HKd.out
          have HK0 := Lib.hid hkd0
          obtain ⟨b5, hb5⟩ : ∃ b, (decide (0 ≤ kd) && decide (kd ≤ 1)) = b := ⟨_, rfl⟩
          have HB5 := Lib.hid hb5
          have hb3 := HB3.out
          clear hkd0 hb5
          go_upto_region 16 with fail
          go_cut [71] (fun vq wx => vq = .bool (b5 && b3) ∧ wx = wc)
          case first =>
            cases b5 with
            | false =>
              go_wp2_with (go_at_call 82; refine (l1In_any _ _ _ false _ HB5.out).mono ?_; rintro e w' ⟨rfl, rfl⟩)
              go_meet
              exact ⟨by simp, rfl⟩
            | true =>
              go_wp2_with (go_at_call 82; refine (l1In_any _ _ _ true _ HB5.out).mono ?_; rintro e w' ⟨rfl, rfl⟩)
              go_meet
              exact ⟨by simp, rfl⟩
          case rest =>
          obtain ⟨rfl, hwx⟩ := hcut
          obtain ⟨w2, rfl⟩ : ∃ x, x = wc := ⟨_, rfl⟩
          subst hwx
          clear hb3 hb4'
          cases hA3 : (b5 && b3) with
          | true =>
            obtain ⟨rfl, rfl⟩ : b5 = true ∧ b3 = true := by simpa using hA3
            obtain rfl : n = 3 := len3 HB3.out rfl
            obtain ⟨x1, hx1⟩ : ∃ x, wordAt ws 1 = x := ⟨_, rfl⟩
            obtain ⟨x2, hx2⟩ : ∃ x, wordAt ws 2 = x := ⟨_, rfl⟩
            obtain ⟨r1, hr1⟩ : ∃ r, readB (wordAt ws 1) = r := ⟨_, rfl⟩
            obtain ⟨r2, hr2⟩ : ∃ r, readB (wordAt ws 2) = r := ⟨_, rfl⟩
            have HL : Hid (lineC C ws = ⟨C.in0, C.in1, C.gs ++ [(kd, r1, r2)], C.os⟩) := by
              show _ = _
              rw [lineC, if_neg HA0.out, if_neg HB0.out, HK0.out, if_pos, hr1, hr2]
              rw [HB5.out, HLen.out, HB3.out]
              rfl
            have c1 := HC1.out 1 (by omega)
            have z1 := HZ.out 1 (by omega)
            have c2 := HC1.out 2 (by omega)
            have z2 := HZ.out 2 (by omega)
            rw [hx1] at c1 z1 hr1
            rw [hx2] at c2 z2 hr2
            have HR1 := Lib.hid hr1
            have HR2 := Lib.hid hr2
            obtain ⟨h1, h2, G, gn, gc, O, om, od, p, hgg, hoo⟩ := HP1.out
            have hgn : gn ≤ 1048577 := by have := hgg.1; omega
            have k2 := p.cell (i := 2) rfl
            have f2 := p.free 2
            have b6 := belowNew w2 (.cells #[.int .i64 kd, .int .i64 r1, .int .i64 r2] 51)
            have k2a := (p.below' b6).cell (i := 2) rfl
            have f2a := (p.below' b6).free 2
            clear hx1 hx2 hr1 hr2 hA3 HA0 HB0 HC1 HS1 HP1 HC HZ HS HX HKd HK0 HB2 HB3 HB4 HB5 hc1 n0 hn hn2 hg ho hgw hnc HP
            go_wp2_with fail
            first
              | go_region_law (first
                  | (refine stepGatesG (w2.alloc (.cells #[.int .i64 kd, .int .i64 r1, .int .i64 r2] 51)).drew rfl (.tmp 83) (.tmp 94) rfl N G (some ⟨w2.heap.size, 0, none⟩) gn gc 1 1 C.gs [(kd, r1, r2)] (by simp [Act.eval]) (hgg.below b6.drew) (by simp [Act.eval]) (fun e => by cases e) (litG1 w2 kd r1 r2) (by omega) (by omega) (Nat.le_trans h2 b6.size) ?_; intro R5 c5 w5 own5 _ G5; have G6 := grownAfter (w' := (w2.alloc (.cells #[.int .i64 kd, .int .i64 r1, .int .i64 r2] 51)).drew) b6.drew G5; have PO := PtrC.putG (C := C) h1 h2 p hgg hoo G6 own5; have k5 := PO.1.cell (i := 2) rfl; have f5 := PO.1.free 2)
                  | (go_simp; go_at_call_of 122 x1; refine (l1Read_any x1 r1 _ z1 HR1.out).mono ?_; rintro e w4 ⟨rfl, rfl⟩; dsimp only)
                  | (go_simp; go_at_call_of 122 x2; refine (l1Read_any x2 r2 _ z2 HR2.out).mono ?_; rintro e w4 ⟨rfl, rfl⟩; dsimp only))
              | fail
            all_goals
              go_wp2_with fail
              go_end0
              refine ⟨rfl, ?_, (Past.of (HB1.out.mono HN.out)).trans PO.2.2⟩
              rw [HL.out]
              exact PO.2.1
          | false =>
            have HA3 : Hid (¬ (((decide (0 ≤ kd) && decide (kd ≤ 1)) && ((ws.length : Int) == 3)) = true)) := by
              show ¬ _
              rw [HB5.out, HLen.out, HB3.out, hA3]
              simp
            obtain ⟨b6, hb6⟩ : ∃ b, (kd == (2 : Int)) = b := ⟨_, rfl⟩
            obtain ⟨b7, hb7⟩ : ∃ b, ((n : Int) == 2) = b := ⟨_, rfl⟩
            have HB6 := Lib.hid hb6
            have HB7 := Lib.hid hb7
            clear hA3
            go_upto_region 18 with fail
            go_cut [98] (fun vq wx => vq = .bool (b6 && b7) ∧ wx = w2)
            case first =>
              cases b6 with
              | false =>
                go_wp2_with fail
                go_meet
                exact ⟨by simp, rfl⟩
              | true =>
                go_wp2_with fail
                go_meet
                exact ⟨by simp, rfl⟩
            case rest =>
            obtain ⟨rfl, hwx⟩ := hcut
            obtain ⟨w3, rfl⟩ : ∃ x, x = wc := ⟨_, rfl⟩
            subst hwx
            clear hb6 hb7
            cases hA4 : (b6 && b7) with
            | true =>
              obtain ⟨rfl, rfl⟩ : b6 = true ∧ b7 = true := by simpa using hA4
              obtain rfl : n = 2 := len2 HB7.out rfl
              obtain ⟨x1, hx1⟩ : ∃ x, wordAt ws 1 = x := ⟨_, rfl⟩
              obtain ⟨r1, hr1⟩ : ∃ r, readB (wordAt ws 1) = r := ⟨_, rfl⟩
              have HL : Hid (lineC C ws = ⟨C.in0, C.in1, C.gs ++ [(kd, r1, 0)], C.os⟩) := by
                show _ = _
                rw [lineC, if_neg HA0.out, if_neg HB0.out, HK0.out, if_neg HA3.out, if_pos, hr1]
                rw [HB6.out, HLen.out, HB7.out]
                rfl
              have c1 := HC1.out 1 (by omega)
              have z1 := HZ.out 1 (by omega)
              rw [hx1] at c1 z1 hr1
              have HR1 := Lib.hid hr1
              obtain ⟨h1, h2, G, gn, gc, O, om, od, p, hgg, hoo⟩ := HP1.out
              have hgn : gn ≤ 1048577 := by have := hgg.1; omega
              have k2 := p.cell (i := 2) rfl
              have f2 := p.free 2
              have b9 := belowNew w3 (.cells #[.int .i64 kd, .int .i64 r1, .int .i64 0] 51)
              have k2a := (p.below' b9).cell (i := 2) rfl
              have f2a := (p.below' b9).free 2
              clear hx1 hr1 hA4
              go_wp2_with fail
              first
                | go_region_law (first
                    | (refine stepGatesG (w3.alloc (.cells #[.int .i64 kd, .int .i64 r1, .int .i64 0] 51)).drew rfl (.tmp 110) (.tmp 117) rfl N G (some ⟨w3.heap.size, 0, none⟩) gn gc 1 1 C.gs [(kd, r1, 0)] (by simp [Act.eval]) (hgg.below b9.drew) (by simp [Act.eval]) (fun e => by cases e) (litG1 w3 kd r1 0) (by omega) (by omega) (Nat.le_trans h2 b9.size) ?_; intro R5 c5 w5 own5 _ G5; have G6 := grownAfter (w' := (w3.alloc (.cells #[.int .i64 kd, .int .i64 r1, .int .i64 0] 51)).drew) b9.drew G5; have PO := PtrC.putG (C := C) h1 h2 p hgg hoo G6 own5; have k5 := PO.1.cell (i := 2) rfl; have f5 := PO.1.free 2)
                    | (go_simp; go_at_call_of 122 x1; refine (l1Read_any x1 r1 _ z1 HR1.out).mono ?_; rintro e w4 ⟨rfl, rfl⟩; dsimp only))
                | fail
              all_goals
                go_wp2_with fail
                go_end0
                refine ⟨rfl, ?_, (Past.of (HB1.out.mono HN.out)).trans PO.2.2⟩
                rw [HL.out]
                exact PO.2.1
            | false =>
              have HA4 : Hid (¬ (((kd == (2 : Int)) && ((ws.length : Int) == 2)) = true)) := by
                show ¬ _
                rw [HB6.out, HLen.out, HB7.out, hA4]
                simp
              obtain ⟨b8, hb8⟩ : ∃ b, (kd == (3 : Int)) = b := ⟨_, rfl⟩
              have HB8 := Lib.hid hb8
              clear hA4
              cases b8 with
              | true =>
                have HL : Hid (lineC C ws = ⟨C.in0, C.in1, C.gs ++ [(kd, 0, 0)], C.os⟩) := by
                  show _ = _
                  rw [lineC, if_neg HA0.out, if_neg HB0.out, HK0.out, if_neg HA3.out, if_neg HA4.out, if_pos HB8.out]
                obtain ⟨h1, h2, G, gn, gc, O, om, od, p, hgg, hoo⟩ := HP1.out
                have hgn : gn ≤ 1048577 := by have := hgg.1; omega
                have k2 := p.cell (i := 2) rfl
                have f2 := p.free 2
                have b9 := belowNew w3 (.cells #[.int .i64 kd, .int .i64 0, .int .i64 0] 51)
                go_wp2_with (at_builtin; refine appendGate w3 rfl (.tmp 128) (.tmp 131) rfl kd 0 0 N (.slice G gn gc) gn C.gs rfl rfl hgg.2 (by omega) h2 ?_)
                intro v5 w5 own5 _ G5
                rw [ownBlockOf] at G5
                obtain ⟨R5, c5, rfl, own5'⟩ := ownGOf own5
                have PO := PtrC.putG (C := C) h1 h2 p hgg hoo G5 own5'
                have k5 := PO.1.cell (i := 2) rfl
                have f5 := PO.1.free 2
                go_wp2_with fail
                go_end0
                refine ⟨rfl, ?_, (Past.of (HB1.out.mono HN.out)).trans PO.2.2⟩
                rw [HL.out]
                exact PO.2.1
              | false =>
                have HL : Hid (lineC C ws = C) := by
                  show _ = _
                  rw [lineC, if_neg HA0.out, if_neg HB0.out, HK0.out, if_neg HA3.out, if_neg HA4.out, if_neg (by rw [HB8.out]; simp)]
                go_wp2_with fail
                go_end0
                refine ⟨rfl, ?_, Past.of (HB1.out.mono HN.out)⟩
                rw [HL.out]
                exact HP1.out

end Go.Proofs.YtibaiajanggbdaaGreatDoor
