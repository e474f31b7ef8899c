/- RunWith, the program's side. For every circuit of at most 1048576 gates and outs. -/
import Derived.Test.YtnmjnffnelkciaaGdR1
import Derived.Test.YtnmjnffnelkciaaCirI6
namespace Go.Proofs.Ytnmjnffnelkciaa
open Go Go.RowKit
set_option maxRecDepth 100000

set_option maxRecDepth 100000 in
set_option maxHeartbeats 2000000 in
theorem impl_RunWith (v : Value) (C : Ci) (a b : Int) (ry : Int) (rb : Bool) (w : World) (h : HasC w v C) (hf : Fit C) (ha : I64 a) (hb : I64 b) (hm : m_RunWith C a b = (ry, rb)) :
    Calls Try.prog 40 #[v, .int .i64 a, .int .i64 b] w fun e w' => e = .returned (.tuple #[.int .i64 ry, .bool rb]) ∧ Below w.heap.size w w' := by
  obtain ⟨G, n, c, O, m, d, rfl, hG, hO, _, _, _, _⟩ := id h
  rw [run_eq] at hm
  obtain ⟨rs1, rb1, h1⟩ : ∃ rs1 rb1, m_BitsOf a C.in0 = (rs1, rb1) := ⟨_, _, rfl⟩
  obtain ⟨rs2, rb2, h2⟩ : ∃ rs2 rb2, m_BitsOf b C.in1 = (rs2, rb2) := ⟨_, _, rfl⟩
  rw [h1, h2] at hm
  simp only at hm
  obtain ⟨os, ok, h3⟩ : ∃ os ok, m_EvalCircuit C rs1 rs2 = (os, ok) := ⟨_, _, rfl⟩
  rw [h3] at hm
  simp only at hm
  have H1 := Lib.hid h1
  have H2 := Lib.hid h2
  have H3 := Lib.hid h3
  have HM := Lib.hid hm
  have B1 := belowNew w (.cells #[.int .i64 C.in0, .int .i64 C.in1, .slice G n c, .slice O m d] 25)
  have p1 := Blk.new w #[.int .i64 C.in0, .int .i64 C.in1, .slice G n c, .slice O m d] 25
  have hc1 := h.below B1
  obtain ⟨w1, hw1⟩ : ∃ W, W = w.alloc (.cells #[.int .i64 C.in0, .int .i64 C.in1, .slice G n c, .slice O m d] 25) := ⟨_, rfl⟩
  rw [← hw1] at B1 p1 hc1
  obtain ⟨k0, k1, k2, k3⟩ := p1.four
  have i0 : I64 C.in0 := hf.2.2.1
  have i1 : I64 C.in1 := hf.2.2.2.1
  clear h h1 h2 h3 hm hG hO
  go_enter Try.func40, Try.ntmps40
  go_wp2_with fail
  rw [← hw1]
  clear hw1
  refine (impl_BitsOf a C.in0 rs1 rb1 w1 ha i0 H1.out).mono ?_
  rintro e w2 ⟨R1, m1, c1, rfl, o1, n1, b2⟩
  have p2 := p1.below' b2
  have hc2 := hc1.below b2
  have B2 := B1.trans (b2.mono B1.size)
  obtain ⟨l0, l1, l2, l3⟩ := p2.four
  clear p1 hc1 B1 b2 k0 k1 k2 k3
  go_wp2_with fail
  refine (impl_BitsOf b C.in1 rs2 rb2 w2 hb i1 H2.out).mono ?_
  rintro e w3 ⟨R2, m2, c2, rfl, o2, n2, b3⟩
  have p3 := p2.below' b3
  have hc3 := hc2.below b3
  have B3 := B2.trans (b3.mono B2.size)
  have o1' := o1.below b3
  obtain ⟨q0, q1, q2, q3⟩ := p3.four
  clear p2 hc2 B2 b3 l0 l1 l2 l3 o1
  go_wp2_with fail
  refine (impl_EvalCircuit _ C R1 m1 c1 rs1 R2 m2 c2 rs2 os ok w3 hc3 hf o1'.has n1 (own_nilOk o1') o2.has n2 (own_nilOk o2) H3.out).mono ?_
  rintro e w4 ⟨R4, m4, c4, rfl, o4, n4, b4⟩
  have B4 := B3.trans (b4.mono B3.size)
  have e := HM.out
  clear p3 hc3 B3 b4 q0 q1 q2 q3 o1' o2
  cases ok with
  | false =>
    obtain ⟨rfl, rfl⟩ := Prod.mk.inj e
    clear e
    go_wp2_with fail
    go_ret2
    exact ⟨rfl, B4⟩
  | true =>
    cases rb1 with
    | false =>
      obtain ⟨rfl, rfl⟩ := Prod.mk.inj e
      clear e
      go_wp2_with fail
      go_ret2
      exact ⟨rfl, B4⟩
    | true =>
      cases rb2 with
      | false =>
        obtain ⟨rfl, rfl⟩ := Prod.mk.inj e
        clear e
        go_wp2_with fail
        go_ret2
        exact ⟨rfl, B4⟩
      | true =>
        have e2 : m_NumberOf os = (ry, rb) := e
        have HN := Lib.hid (impl_NumberOf R4 m4 c4 os ry rb w4 o4.has n4 e2)
        clear e e2
        go_wp2_with fail
        refine (HN.out).mono ?_
        rintro e w5 ⟨rfl, b5⟩
        go_wp2_with fail
        go_ret2
        exact ⟨rfl, B4.trans (b5.mono B4.size)⟩

end Go.Proofs.Ytnmjnffnelkciaa
