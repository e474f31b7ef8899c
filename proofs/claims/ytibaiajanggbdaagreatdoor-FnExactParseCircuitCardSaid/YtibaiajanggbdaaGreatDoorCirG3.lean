/- The model's IsCircuit, WireValues, EvalCircuit. For every circuit of at most 1048576 gates and outs and every two lists of at most 16777216 numbers. -/
import Derived.Test.YtibaiajanggbdaaGreatDoorCirG2
import Derived.Deep.RegionHeld3
namespace Go.Proofs.YtibaiajanggbdaaGreatDoor
open Go.RowKit
set_option maxRecDepth 100000

set_option maxHeartbeats 1000000 in
theorem spec_IsCircuit (v : Value) (C : Ci) (r : Bool) (w : World) (h : HasC w v C) (hf : Fit C) (hm : m_IsCircuit C = r) :
    Calls Tryz.prog 11 #[v] w fun e w' => e = .returned (.bool r) ∧ Below w.heap.size w w' := by
  obtain ⟨G, n, c, O, q, d, rfl, _, _, _, _, _, _⟩ := id h
  have B1 := belowNew w (.cells #[.int .i64 C.in0, .int .i64 C.in1, .slice G n c, .slice O q d] 27)
  have h1 := h.below B1
  have k0 := (Blk.new w #[.int .i64 C.in0, .int .i64 C.in1, .slice G n c, .slice O q d] 27).cell (i := 0) rfl
  have HF := Lib.hid (ciGood_any _ C r _ h1 (fitLen hf) hm)
  clear h h1
  go_enter Tryz.func11, Tryz.ntmps11
  go_wp2_with fail
  refine (HF.out).mono ?_
  rintro e w1 ⟨rfl, b1⟩
  go_wp2_with fail
  go_ret
  exact ⟨rfl, B1.trans (b1.mono B1.size)⟩

set_option maxHeartbeats 2000000 in
theorem ciAsked_any (v : Value) (C : Ci) (A : Option Addr) (n1 c1 : Nat) (xs : List Int) (B : Option Addr) (n2 c2 : Nat) (ys : List Int) (b : Bool) (w : World) (h : HasC w v C) (hf : Fit C) (hx : Has w A n1 xs) (hn : n1 ≤ 16777216) (hy : Has w B n2 ys) (hn2 : n2 ≤ 16777216) (hb : asked C xs ys = b) :
    Calls Tryz.prog 29 #[v, .slice A n1 c1, .slice B n2 c2] w fun e w' => e = .returned (.bool b) ∧ Below w.heap.size w w' := by
  obtain ⟨G, n, c, O, q, d, rfl, _, _, _, _, _, _⟩ := id h
  have HX := Lib.hid hx.1
  have HY := Lib.hid hy.1
  have HB := Lib.hid hb
  have B1 := belowNew w (.cells #[.int .i64 C.in0, .int .i64 C.in1, .slice G n c, .slice O q d] 27)
  have p1 := Blk.new w #[.int .i64 C.in0, .int .i64 C.in1, .slice G n c, .slice O q d] 27
  have h1 := h.below B1
  have hx1 := hx.below B1
  have hy1 := hy.below B1
  obtain ⟨W1, hW1⟩ : ∃ W, W = w.alloc (.cells #[.int .i64 C.in0, .int .i64 C.in1, .slice G n c, .slice O q d] 27) := ⟨_, rfl⟩
  rw [← hW1] at B1 p1 h1 hx1 hy1
  clear h hx hy hb
  have HG := Lib.hid (ciGood_any _ C (gd C) W1 h1 (fitLen hf) rfl)
  obtain ⟨k0, k1, k2, k3⟩ := p1.four
  cases eg : gd C with
  | false =>
    have e : b = false := by rw [← HB.out, asked, eg]; rfl
    subst e
    go_enter Tryz.func29, Tryz.ntmps29
    go_wp2_with fail
    rw [← hW1]
    refine (HG.out).mono ?_
    rintro e w2 ⟨rfl, b2⟩
    rw [eg]
    go_wp2_with fail
    go_ret
    exact ⟨rfl, B1.trans (b2.mono B1.size)⟩
  | true =>
  have HA : Hid (∀ w', Below W1.heap.size W1 w' → Calls Tryz.prog 79 #[.slice A n1 c1, .int .i64 20] w' fun e w'' => e = .returned (.bool (good 20 xs)) ∧ w' = w'') := fun w' hb => btGood_any A n1 c1 xs 20 _ w' (hx1.below hb) hn rfl
  have HBt : Hid (∀ w', Below W1.heap.size W1 w' → Calls Tryz.prog 79 #[.slice B n2 c2, .int .i64 20] w' fun e w'' => e = .returned (.bool (good 20 ys)) ∧ w' = w'') := fun w' hb => btGood_any B n2 c2 ys 20 _ w' (hy1.below hb) hn2 rfl
  clear h1 hx1 hy1
  cases ea : good 20 xs with
  | false =>
    have e : b = false := by rw [← HB.out, asked, ea]; simp
    subst e
    go_enter Tryz.func29, Tryz.ntmps29
    go_wp2_with fail
    rw [← hW1]
    refine (HG.out).mono ?_
    rintro e w2 ⟨rfl, b2⟩
    rw [eg]
    clear hW1
    go_wp2_with fail
    refine (HA.out w2 b2).mono ?_
    rintro e w3 ⟨rfl, rfl⟩
    rw [ea]
    go_wp2_with fail
    go_ret
    exact ⟨rfl, B1.trans (b2.mono B1.size)⟩
  | true =>
  cases eb : good 20 ys with
  | false =>
    have e : b = false := by rw [← HB.out, asked, eb]; simp
    subst e
    go_enter Tryz.func29, Tryz.ntmps29
    go_wp2_with fail
    rw [← hW1]
    refine (HG.out).mono ?_
    rintro e w2 ⟨rfl, b2⟩
    rw [eg]
    clear hW1
    go_wp2_with fail
    refine (HA.out w2 b2).mono ?_
    rintro e w3 ⟨rfl, rfl⟩
    rw [ea]
    go_wp2_with fail
    refine (HBt.out w2 b2).mono ?_
    rintro e w3 ⟨rfl, rfl⟩
    rw [eb]
    go_wp2_with fail
    go_ret
    exact ⟨rfl, B1.trans (b2.mono B1.size)⟩
  | true =>
  have hd : b = (decide ((n1 : Int) = C.in0) && decide ((n2 : Int) = C.in1)) := by rw [← HB.out, asked, eg, ea, eb, HX.out, HY.out]; simp
  have HD := Lib.hid hd
  clear hd
  by_cases e0 : (n1 : Int) = C.in0
  · have e : b = decide ((n2 : Int) = C.in1) := by rw [HD.out, decide_eq_true e0, Bool.true_and]
    subst e
    go_enter Tryz.func29, Tryz.ntmps29
    go_wp2_with fail
    rw [← hW1]
    refine (HG.out).mono ?_
    rintro e w2 ⟨rfl, b2⟩
    rw [eg]
    have p2 := p1.below' b2
    obtain ⟨k0, k1, k2, k3⟩ := p2.four
    clear hW1
    go_wp2_with fail
    refine (HA.out w2 b2).mono ?_
    rintro e w3 ⟨rfl, rfl⟩
    rw [ea]
    go_wp2_with fail
    refine (HBt.out w2 b2).mono ?_
    rintro e w3 ⟨rfl, rfl⟩
    rw [eb]
    go_wp2_with fail
    go_ret
    exact ⟨by congr 2, B1.trans (b2.mono B1.size)⟩
  · have e : b = false := by rw [HD.out, decide_eq_false e0, Bool.false_and]
    subst e
    go_enter Tryz.func29, Tryz.ntmps29
    go_wp2_with fail
    rw [← hW1]
    refine (HG.out).mono ?_
    rintro e w2 ⟨rfl, b2⟩
    rw [eg]
    have p2 := p1.below' b2
    obtain ⟨k0, k1, k2, k3⟩ := p2.four
    clear hW1
    go_wp2_with fail
    refine (HA.out w2 b2).mono ?_
    rintro e w3 ⟨rfl, rfl⟩
    rw [ea]
    go_wp2_with fail
    refine (HBt.out w2 b2).mono ?_
    rintro e w3 ⟨rfl, rfl⟩
    rw [eb]
    go_wp2_with fail
    go_ret
    exact ⟨rfl, B1.trans (b2.mono B1.size)⟩

end Go.Proofs.YtibaiajanggbdaaGreatDoor
