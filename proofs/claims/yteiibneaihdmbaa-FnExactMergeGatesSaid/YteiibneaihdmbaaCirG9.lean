/- The model's UsedWires. For every circuit of at most 1048576 gates and outs. -/
import Derived.Test.YteiibneaihdmbaaCirG8
import Derived.Deep.CutBlock
namespace Go.Proofs.Yteiibneaihdmbaa
open Go.RowKit
set_option maxRecDepth 100000

theorem takeMem {l : List Int} {k : Nat} (h : k < l.length) (y : Int) : y ∈ l.take (k + 1) ↔ y = l.getD k 0 ∨ y ∈ l.take k := by
  rw [List.take_add_one, List.getElem?_eq_getElem h, List.mem_append]
  simp [List.getD, List.getElem?_eq_getElem h, or_comm]

set_option maxRecDepth 100000 in
set_option maxHeartbeats 4000000 in
theorem ciUsed_any (v : Value) (C : Ci) (w : World) (h : HasC w v C) (hG : Good C) :
    Calls Try.prog 152 #[v] w fun e w' => ∃ R m c', e = .returned (.slice R m c') ∧ Has w' R m (usedL C) ∧ m ≤ 16777216 ∧ Below w.heap.size w w' := by
  obtain ⟨G, n, c, O, q, d, rfl, hGs, hO, _, _, _, _⟩ := id h
  have hgl := hGs.1
  have hol := hO.1
  have n300 : n ≤ 300 := by have := hG.g; omega
  have q40 : q ≤ 40 := by have := hG.o; omega
  have HGO := Lib.hid hG
  have HGL := Lib.hid hgl
  have HOL := Lib.hid hol
  have B1 := belowNew w (.cells #[.int .i64 C.in0, .int .i64 C.in1, .slice G n c, .slice O q d] 29)
  have p1 := Blk.new w #[.int .i64 C.in0, .int .i64 C.in1, .slice G n c, .slice O q d] 29
  have h1 := h.below B1
  obtain ⟨W1, hW1⟩ : ∃ W, W = w.alloc (.cells #[.int .i64 C.in0, .int .i64 C.in1, .slice G n c, .slice O q d] 29) := ⟨_, rfl⟩
  rw [← hW1] at B1 p1 h1
  have hO1 := hO.below B1
  have hGs1 := hGs.below B1
  obtain ⟨k0, k1, k2, k3⟩ := p1.four
  have hin0 : 0 ≤ C.ins ∧ C.ins ≤ 40 := by have := hG.a0; have := hG.a1; have := hG.b0; have := hG.b1; unfold Ci.ins; omega
  obtain ⟨ins0, ins1⟩ := hin0
  clear h hG hGs hO hgl hol
  go_enter Try.func152, Try.ntmps152
  go_wp2_with fail
  rw [← hW1]
  clear hW1
  go_wp2_with fail
  go_loopw [3, 12] (fun vv iv wr => ∃ (k : Nat) (R : Option Addr) (m c' : Nat), k ≤ q ∧ iv = .int .i64 k ∧ vv = .slice R m c' ∧ Rises wr R m c' (fun y => y ∈ C.os.take k) ∧ m ≤ k ∧ Below W1.heap.size W1 wr) (fun _ iv _ => q - (intOf iv).toNat)
  case atStart => exact ⟨0, none, 0, 0, Nat.zero_le _, rfl, rfl, ⟨Nat.le_refl _, fun _ => ⟨rfl, rfl⟩, [], Has.nil_, List.Pairwise.nil, by simp⟩, Nat.zero_le _, Below.refl _ _⟩
  case round =>
    obtain ⟨k, R, m, c', hk, rfl, rfl, hR, hmk, bk⟩ := hrel
    by_cases hlt : k < q
    · obtain ⟨od, i, rfl, hci, HI⟩ := (hO1.below bk).elem hlt
      have j0 : (0 : Int) ≤ (k : Int) := by omega
      have j1 : (k : Int) < (q : Int) := by omega
      have HR := Lib.hid hR
      have HBK := Lib.hid bk
      clear hR bk
      go_wp2_with fail
      refine (putRises R m c' _ i wr HR.out (by omega)).mono ?_
      rintro e w2 ⟨R2, m2, c2, rfl, hR2, hm2, b2⟩
      have HR2 := Lib.hid (hR2.eq (Q := fun y => y ∈ C.os.take (k + 1)) (fun y => by rw [takeMem (by rw [HOL.out]; exact hlt), HI.out]))
      have B2 := HBK.out.trans (b2.mono HBK.out.size)
      clear hR2 b2
      go_wp2_with fail
      go_roundw
      case rel => exact ⟨k + 1, R2, m2, c2, by omega, by go_num, rfl, HR2.out, by omega, B2⟩
      case measure => simp [intOf] <;> omega
    · obtain rfl : k = q := by omega
      have HR0 : Hid (Rises wr R m c' (fun y => usedB C 0 y = true)) := hR.eq (fun y => by rw [usedB, contains_iff, List.take_of_length_le (by rw [HOL.out]; exact Nat.le_refl _)])
      have m40 : m ≤ 40 := by omega
      have p2 := p1.below' bk
      obtain ⟨k0, k1, k2, k3⟩ := p2.four
      have hn1 : IntKind.i64.wrap ((n : Int) - 1) = (n : Int) - 1 := wrapIn (by omega) (by omega)
      have HB := Lib.hid bk
      clear hR hmk hk bk hlt p2
      go_wp2_with fail
      go_loopw [3, 6] (fun vv iv wx => ∃ (j : Nat) (R : Option Addr) (m c' : Nat), j ≤ n ∧ iv = .int .i64 ((n : Int) - 1 - (j : Int)) ∧ vv = .slice R m c' ∧ Rises wx R m c' (fun y => usedB C j y = true) ∧ m ≤ 40 + 2 * j ∧ Below W1.heap.size W1 wx) (fun _ iv _ => (intOf iv + 1).toNat)
      case atStart => exact ⟨0, R, m, c', Nat.zero_le _, by simp, rfl, HR0.out, by omega, HB.out⟩
      clear HR0 HB
      case round =>
        obtain ⟨j, R2, m2, c2, hj, rfl, rfl, hR2, hm2, b2⟩ := hrel
        by_cases hjl : j < n
        · obtain ⟨gi, hgi⟩ : ∃ gi : Nat, gi = n - 1 - j := ⟨_, rfl⟩
          have hgl2 : gi < n := by omega
          have ecast : (n : Int) - 1 - (j : Int) = (gi : Int) := by omega
          rw [ecast]
          have HGI : Hid (C.gs.length - 1 - j = gi) := by show _ = _; rw [HGL.out, hgi]
          have p3 := p1.below' b2
          obtain ⟨k0, k1, k2, k3⟩ := p3.four
          have g0' : (0 : Int) ≤ (gi : Int) := by omega
          have g1' : (gi : Int) < (n : Int) := by omega
          have hwg : IntKind.i64.wrap (C.ins + (gi : Int)) = C.ins + (gi : Int) := wrapIn (by omega) (by omega)
          have hwd : IntKind.i64.wrap ((gi : Int) - 1) = (gi : Int) - 1 := wrapIn (by omega) (by omega)
          have enext : Hid ((gi : Int) - 1 = (n : Int) - 1 - ((j + 1 : Nat) : Int)) := by show _ = _; push_cast; omega
          have HI2 := Lib.hid (ciInputs_any _ C wr (h1.below b2) HGO.out.a0 (by have := HGO.out.a1; omega) HGO.out.b0 (by have := HGO.out.b1; omega))
          have HB2 := Lib.hid b2
          have HR2 := Lib.hid hR2
          clear ecast hgi b2 hR2
          go_wp2_with fail
          refine (HI2.out).mono ?_
          rintro e w3 ⟨rfl, b3⟩
          have HB3 := Lib.hid (HB2.out.trans (b3.mono HB2.out.size))
          have HR3 := Lib.hid (HR2.out.below b3)
          have p4 := p3.below' b3
          clear b3 p3 k0 k1 k2 k3 HI2
          obtain ⟨k0, k1, k2, k3⟩ := p4.four
          obtain ⟨mc, mnil, zs, hz, hrise, hmem⟩ := HR3.out
          obtain ⟨b, hb⟩ : ∃ b, zs.contains (C.ins + (gi : Int)) = b := ⟨_, rfl⟩
          have hub : usedB C j (C.ins + (gi : Int)) = b := by
            rw [← hb, Bool.eq_iff_iff, contains_iff]
            exact (hmem _).symm
          have HUB := Lib.hid hub
          have HHas := Lib.hid (l1Has_mem R2 m2 c2 zs (C.ins + (gi : Int)) b w3 hz (by omega) hb)
          clear hb hub hz hrise hmem mc mnil
          go_wp2_with fail
          refine (HHas.out).mono ?_
          rintro e w4 ⟨rfl, rfl⟩
          cases b with
          | false =>
            have HN : Hid (Rises w3 R2 m2 c2 (fun y => usedB C (j + 1) y = true)) := HR3.out.eq (fun y => by rw [usedB, HGI.out, HUB.out, Bool.false_and, Bool.or_false])
            go_wp2_with fail
            go_roundw
            case rel => exact ⟨j + 1, R2, m2, c2, by omega, by rw [enext.out], rfl, HN.out, by omega, HB3.out⟩
            case measure => simp [intOf] <;> omega
          | true =>
            obtain ⟨ad, x, y, z, rfl, hgx, hgy, hgz, HE⟩ := (hGs1.below HB3.out).elem hgl2
            have HP := Lib.hid (show partsOf (C.gs.getD gi g0) = partsOf (x, y, z) by rw [HE.out])
            go_wp2_with fail
            refine (ciParts_any x y z w3).mono ?_
            rintro e w5 ⟨R5, np, c5, rfl, o5, np2, b5⟩
            have HB5 := Lib.hid (HB3.out.trans (b5.mono HB3.out.size))
            have HR5 : Hid (Rises w5 R2 m2 c2 (fun y' => usedB C j y' = true ∨ y' ∈ (partsOf (x, y, z)).take 0)) := (HR3.out.below b5).eq (fun y' => by simp)
            have hp5 := o5.has
            have HPL := Lib.hid hp5.1
            clear o5 b5 hgx hgy hgz k0 k1 k2 k3
            go_wp2_with fail
            go_loopw [3, 41] (fun vv iv wy => ∃ (t : Nat) (R : Option Addr) (m c' : Nat), t ≤ np ∧ iv = .int .i64 t ∧ vv = .slice R m c' ∧ Rises wy R m c' (fun y' => usedB C j y' = true ∨ y' ∈ (partsOf (x, y, z)).take t) ∧ m ≤ m2 + t ∧ Below w5.heap.size w5 wy) (fun _ iv _ => np - (intOf iv).toNat)
            case atStart => exact ⟨0, R2, m2, c2, Nat.zero_le _, rfl, rfl, HR5.out, by omega, Below.refl _ _⟩
            case round =>
              obtain ⟨t, R6, m6, c6, ht, rfl, rfl, hR6, hm6, b6⟩ := hrel
              by_cases htl : t < np
              · obtain ⟨pd, i, rfl, hci, HI⟩ := (hp5.below b6).elem htl
                have j0 : (0 : Int) ≤ (t : Int) := by omega
                have j1 : (t : Int) < (np : Int) := by omega
                have HR6 := Lib.hid hR6
                have HB6 := Lib.hid b6
                clear hR6 b6
                go_wp2_with fail
                refine (putRises R6 m6 c6 _ i wr HR6.out (by omega)).mono ?_
                rintro e w7 ⟨R7, m7, c7, rfl, hR7, hm7, b7⟩
                have HR7 := Lib.hid (hR7.eq (Q := fun y' => usedB C j y' = true ∨ y' ∈ (partsOf (x, y, z)).take (t + 1)) (fun y' => by
                  rw [takeMem (by rw [HPL.out]; exact htl), HI.out]
                  exact ⟨fun h => h.elim (fun h => .inr (.inl h)) (fun h => h.elim .inl (fun h => .inr (.inr h))), fun h => h.elim (fun h => .inr (.inl h)) (fun h => h.elim .inl (fun h => .inr (.inr h)))⟩))
                have HB7 := Lib.hid (HB6.out.trans (b7.mono HB6.out.size))
                clear hR7 b7
                go_wp2_with fail
                go_roundw
                case rel => exact ⟨t + 1, R7, m7, c7, by omega, by go_num, rfl, HR7.out, by omega, HB7.out⟩
                case measure => simp [intOf] <;> omega
              · obtain rfl : t = np := by omega
                have HN : Hid (Rises wr R6 m6 c6 (fun y => usedB C (j + 1) y = true)) := hR6.eq (fun y' => by
                  rw [usedB, HGI.out, HUB.out, Bool.true_and, Bool.or_eq_true, contains_iff, HP.out, List.take_of_length_le (by rw [HPL.out]; exact Nat.le_refl _)])
                have HB6 := Lib.hid (HB5.out.trans (b6.mono HB5.out.size))
                clear hR6 b6
                go_wp2_with fail
                go_roundw
                case rel => exact ⟨j + 1, R6, m6, c6, by omega, by rw [enext.out], rfl, HN.out, by omega, HB6.out⟩
                case measure => simp [intOf] <;> omega
        · obtain rfl : j = n := by omega
          have eneg : (j : Int) - 1 - (j : Int) = -1 := by omega
          obtain ⟨mc, mnil, zs, hz, hrise, hmem⟩ := hR2
          have hu : zs = usedL C := usedL_is HGO.out hrise (fun y => by rw [HGL.out]; exact hmem y)
          rw [eneg]
          clear mc mnil hrise hmem
          go_wp2_with fail
          go_ret
          exact ⟨R2, m2, c2, rfl, by rw [← hu]; exact hz, by omega, B1.trans (b2.mono B1.size)⟩

end Go.Proofs.Yteiibneaihdmbaa
