/- RunWith, the model's side. For every circuit of at most 1048576 gates and outs. -/
import Derived.Test.YtnmjnffnelkciaaGdR1
import Derived.Test.YtnmjnffnelkciaaCirG4
namespace Go.Proofs.Ytnmjnffnelkciaa
open Go Go.RowKit
set_option maxRecDepth 100000

set_option maxRecDepth 100000 in
set_option maxHeartbeats 4000000 in
theorem spec_RunWith (v : Value) (C : Ci) (a b : Int) (ry : Int) (rb : Bool) (w : World) (h : HasC w v C) (hf : Fit C) (_ha : I64 a) (_hb : I64 b) (hm : m_RunWith C a b = (ry, rb)) :
    Calls Try.prog 38 #[v, .int .i64 a, .int .i64 b] w fun e w' => e = .returned (.tuple #[.int .i64 ry, .bool rb]) ∧ Below w.heap.size w w' := by
  obtain ⟨G, n, c, O, m, d, rfl, hG, hO, _, _, _, _⟩ := id h
  have hol := hO.1
  have HM := Lib.hid hm
  have B1 := belowNew w (.cells #[.int .i64 C.in0, .int .i64 C.in1, .slice G n c, .slice O m d] 25)
  have p1 := Blk.new w #[.int .i64 C.in0, .int .i64 C.in1, .slice G n c, .slice O m d] 25
  have hc1 := h.below B1
  obtain ⟨w1, hw1⟩ : ∃ W, W = w.alloc (.cells #[.int .i64 C.in0, .int .i64 C.in1, .slice G n c, .slice O m d] 25) := ⟨_, rfl⟩
  rw [← hw1] at B1 p1 hc1
  obtain ⟨k0, k1, k2, k3⟩ := p1.four
  obtain ⟨g, hg⟩ : ∃ g, gd C = g := ⟨_, rfl⟩
  have HC := Lib.hid (ciGood_any _ C g w1 hc1 ⟨hf.1, hf.2.1⟩ hg)
  clear h hm hG hO
  go_enter Try.func38, Try.ntmps38
  go_wp2_with fail
  rw [← hw1]
  clear hw1
  refine (HC.out).mono ?_
  rintro e w2 ⟨rfl, b2⟩
  have p2 := p1.below' b2
  have hc2 := hc1.below b2
  have B2 := B1.trans (b2.mono B1.size)
  obtain ⟨l0, l1, l2, l3⟩ := p2.four
  clear p1 hc1 B1 b2 k0 k1 k2 k3 HC
  cases g with
  | false =>
    have e := HM.out
    rw [m_RunWith, if_neg (fun h => by rw [hg] at h; exact absurd h.1 (by decide))] at e
    obtain ⟨rfl, rfl⟩ := Prod.mk.inj e
    clear e hg
    go_wp2_with fail
    go_ret2
    exact ⟨rfl, B2⟩
  | true =>
    by_cases hm16 : m ≤ 16
    · have hm16' : ¬ 16 < (m : Int) := by omega
      obtain ⟨r1, h1⟩ : ∃ r1, wordB a C.in0 = r1 := ⟨_, rfl⟩
      have HW1 := Lib.hid (btWord_any a C.in0 r1 w2 h1)
      cases r1 with
      | false =>
        have e := HM.out
        rw [m_RunWith, if_neg (fun h => by rw [h1] at h; exact absurd h.2.2.1 (by decide))] at e
        obtain ⟨rfl, rfl⟩ := Prod.mk.inj e
        clear e hg h1
        go_wp2_with fail
        refine (HW1.out).mono ?_
        rintro e w3 ⟨rfl, rfl⟩
        go_wp2_with fail
        go_ret2
        exact ⟨rfl, B2⟩
      | true =>
        obtain ⟨r2, h2⟩ : ∃ r2, wordB b C.in1 = r2 := ⟨_, rfl⟩
        have HW2 := Lib.hid (btWord_any b C.in1 r2 w2 h2)
        cases r2 with
        | false =>
          have e := HM.out
          rw [m_RunWith, if_neg (fun h => by rw [h2] at h; exact absurd h.2.2.2 (by decide))] at e
          obtain ⟨rfl, rfl⟩ := Prod.mk.inj e
          clear e hg h1 h2
          go_wp2_with fail
          refine (HW1.out).mono ?_
          rintro e w3 ⟨rfl, rfl⟩
          go_wp2_with fail
          refine (HW2.out).mono ?_
          rintro e w3 ⟨rfl, rfl⟩
          go_wp2_with fail
          go_ret2
          exact ⟨rfl, B2⟩
        | true =>
          have e := HM.out
          rw [m_RunWith, if_pos ⟨hg, by omega, h1, h2⟩] at e
          obtain ⟨e1, rfl⟩ := Prod.mk.inj e
          have y1 := wordB_yes h1
          have y2 := wordB_yes h2
          have a16 : a ≤ 65536 := by have := pow16 (k := C.in0.toNat) (by omega); omega
          have b16 : b ≤ 65536 := by have := pow16 (k := C.in1.toNat) (by omega); omega
          obtain ⟨x0, hx0⟩ : ∃ x0 : Nat, C.in0 = (x0 : Int) := ⟨C.in0.toNat, by omega⟩
          obtain ⟨x1, hx1⟩ : ∃ x1 : Nat, C.in1 = (x1 : Int) := ⟨C.in1.toNat, by omega⟩
          have hG := gd_yes hg
          have HE : Hid (numTo (pickL (valsC C (mapTo (fun j => a / 2 ^ j % 2) x0 ++ mapTo (fun j => b / 2 ^ j % 2) x1)) C.os) m = ry) := by
            show _ = _
            rw [← e1, runL, bitsL, bitsL, hx0, hx1, ← hol]
            rfl
          have D : Below w2.heap.size w2 w2.drew := (Below.refl _ w2).drew
          have hK : Hid (∀ W', Below w2.heap.size w2 W' → W'.cell? ⟨w.heap.size, 0, none⟩ = some (.int .i64 (x0 : Int)) ∧ W'.cell? ⟨w.heap.size, 1, none⟩ = some (.int .i64 (x1 : Int)) ∧ W'.cell? ⟨w.heap.size, 2, none⟩ = some (.slice G n c) ∧ W'.cell? ⟨w.heap.size, 3, none⟩ = some (.slice O m d)) := fun W' hb => by
            have := (p2.below' hb).four
            rw [hx0, hx1] at this
            exact this
          have x0l : x0 ≤ 16 := by omega
          have x1l : x1 ≤ 16 := by omega
          have HO1 := Lib.hid (btOf_any a x0 w2.drew y1.2.2.1 a16 x0l)
          have HO2 : Hid (∀ W', Below w2.heap.size w2 W' → Calls Try.prog 78 #[.int .i64 b, .int .i64 (x1 : Int)] W' fun e w' => ∃ R c', e = .returned (.slice R x1 c') ∧ Own w' W'.heap.size R x1 c' (mapTo (fun j => b / 2 ^ j % 2) x1) ∧ Below W'.heap.size W' w') := fun W' _ => btOf_any b x1 W' y2.2.2.1 b16 x1l
          have HJ : Hid (∀ R1 c1 R2 c2 W' W0 W00, Own W' W00 R1 x0 c1 (mapTo (fun j => a / 2 ^ j % 2) x0) → Own W' W0 R2 x1 c2 (mapTo (fun j => b / 2 ^ j % 2) x1) → Calls Try.prog 77 #[.slice R1 x0 c1, .slice R2 x1 c2] W' fun e w' => ∃ R c', e = .returned (.slice R (x0 + x1) c') ∧ Own w' W'.heap.size R (x0 + x1) c' (mapTo (fun j => a / 2 ^ j % 2) x0 ++ mapTo (fun j => b / 2 ^ j % 2) x1) ∧ Below W'.heap.size W' w') := fun R1 c1 R2 c2 W' _ _ h1 h2 => ciJoin_any R1 x0 c1 _ R2 x1 c2 _ W' h1.has (by omega) (own_nilOk h1) h2.has (by omega) (own_nilOk h2)
          have hbits : Bits (mapTo (fun j => a / 2 ^ j % 2) x0 ++ mapTo (fun j => b / 2 ^ j % 2) x1) := by
            have e3 := bits_append (bitsL_bits a (x0 : Int)) (bitsL_bits b (x1 : Int))
            exact e3
          have HOu : Hid (∀ R c' W' W0, Below w2.heap.size w2 W' → Own W' W0 R (x0 + x1) c' (mapTo (fun j => a / 2 ^ j % 2) x0 ++ mapTo (fun j => b / 2 ^ j % 2) x1) → Calls Try.prog 76 #[.agg #[.int .i64 (x0 : Int), .int .i64 (x1 : Int), .slice G n c, .slice O m d], .slice R (x0 + x1) c'] W' fun e w' => ∃ R c', e = .returned (.slice R m c') ∧ Own w' W'.heap.size R m c' (pickL (valsC C (mapTo (fun j => a / 2 ^ j % 2) x0 ++ mapTo (fun j => b / 2 ^ j % 2) x1)) C.os) ∧ Below W'.heap.size W' w') := fun R c' W' _ hb ho => by
            have hcc := hc2.below hb
            rw [hx0, hx1] at hcc
            have := ciOuts_any (.agg #[.int .i64 (x0 : Int), .int .i64 (x1 : Int), .slice G n c, .slice O m d]) C R (x0 + x1) c' _ W' hcc hG ho.has (own_nilOk ho) hbits (by rw [Ci.ins, hx0, hx1]; push_cast; rfl)
            rw [hol] at this
            exact this
          have HNu : Hid (∀ R c' W' W0, Own W' W0 R m c' (pickL (valsC C (mapTo (fun j => a / 2 ^ j % 2) x0 ++ mapTo (fun j => b / 2 ^ j % 2) x1)) C.os) → Calls Try.prog 75 #[.slice R m c'] W' fun e w' => e = .returned (.int .i64 ry) ∧ W' = w') := fun R c' W' _ ho => by
            have hp : Bits (pickL (valsC C (mapTo (fun j => a / 2 ^ j % 2) x0 ++ mapTo (fun j => b / 2 ^ j % 2) x1)) C.os) := pickL_bits (valsTo_bits (C := C) hbits C.gs.length) C.os
            have := btNum_any R m c' _ W' ho.has hm16 (fun k hk => by rcases hp k hk with e | e <;> rw [e] <;> omega)
            rw [HE.out] at this
            exact this
          obtain ⟨l0', l1', l2', l3'⟩ := hK.out w2 (Below.refl _ _)
          have HW1' := HW1.out
          have HW2' := HW2.out
          rw [hx0] at HW1'
          rw [hx1] at HW2'
          have HX1 := Lib.hid HW1'
          have HX2 := Lib.hid HW2'
          clear e e1 hg h1 h2 hG hx0 hx1 l0 l1 l2 l3 HW1 HW2 HW1' HW2' hbits p2 hc2
          go_wp2_with fail
          refine (HX1.out).mono ?_
          rintro e w3 ⟨rfl, rfl⟩
          go_wp2_with fail
          refine (HX2.out).mono ?_
          rintro e w3 ⟨rfl, rfl⟩
          go_wp2_with fail
          first | (go_region_held3 (fun w' => w'.cell? ⟨w.heap.size, 0, none⟩ = some (.int .i64 (x0 : Int)) ∧ w'.cell? ⟨w.heap.size, 1, none⟩ = some (.int .i64 (x1 : Int)) ∧ w'.cell? ⟨w.heap.size, 2, none⟩ = some (.slice G n c) ∧ w'.cell? ⟨w.heap.size, 3, none⟩ = some (.slice O m d)) (first | exact hK.out _ D | exact hK.out _ Ba | exact hK.out _ Bb | exact hK.out _ Bc | exact hK.out _ Bd | go_keep) (first
            | (go_at_call 75; refine (HNu.out R7 c7 w7 _ o7).mono ?_; rintro e w8 ⟨rfl, rfl⟩)
            | (go_at_call 76; refine (HOu.out R6 c6 w6 _ Bc o6).mono ?_; rintro e w7 ⟨R7, c7, rfl, o7, b7⟩; have Bd := Bc.trans (b7.mono Bc.size))
            | (go_at_call 77; refine (HJ.out R4 c4 R5 c5 w5 _ _ o4' o5).mono ?_; rintro e w6 ⟨R6, c6, rfl, o6, b6⟩; have Bc := Bb.trans (b6.mono Bb.size))
            | (go_at_call 78; refine (HO2.out w4 Ba).mono ?_; rintro e w5 ⟨R5, c5, rfl, o5, b5⟩; have Bb := Ba.trans (b5.mono Ba.size); have o4' := o4.below b5)
            | (go_at_call 78; refine (HO1.out).mono ?_; rintro e w4 ⟨R4, c4, rfl, o4, b4⟩; have Ba := D.trans (b4.mono D.size)))) | fail
          go_wp2_with fail
          go_ret2
          exact ⟨rfl, B2.trans (Bd.mono B2.size)⟩
    · have hm16' : 16 < (m : Int) := by omega
      have e := HM.out
      rw [m_RunWith, if_neg (fun h => by have := h.2.1; omega)] at e
      obtain ⟨rfl, rfl⟩ := Prod.mk.inj e
      clear e hg
      go_wp2_with fail
      go_ret2
      exact ⟨rfl, B2⟩

end Go.Proofs.Ytnmjnffnelkciaa
