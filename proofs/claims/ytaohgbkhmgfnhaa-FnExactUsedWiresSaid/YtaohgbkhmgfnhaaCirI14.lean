/- The program's UsedWires. For every circuit of at most 1048576 gates and outs. -/
import Derived.Test.YtaohgbkhmgfnhaaCirU4
import Derived.Test.YtaohgbkhmgfnhaaCirU5
import Derived.Test.YtaohgbkhmgfnhaaCirG9
namespace Go.Proofs.Ytaohgbkhmgfnhaa
open Go.RowKit
set_option maxRecDepth 100000

set_option maxHeartbeats 1000000 in
theorem impl_UsedWires (v : Value) (C : Ci) (rs : List Int) (rb : Bool) (w : World) (h : HasC w v C) (hf : Fit C) (hm : m_UsedWires C = (rs, rb)) :
    Calls Try.prog 31 #[v] w fun e w' => ∃ R m c', e = .returned (.tuple #[.slice R m c', .bool rb]) ∧ Own w' w.heap.size R m c' rs ∧ m ≤ 16777216 ∧ Below w.heap.size w w' := by
  obtain ⟨G, n, c, O, q, d, rfl, hGs, hO, _, _, _, _⟩ := id h
  have HM := Lib.hid hm
  have B1 := belowNew w (.cells #[.int .i64 C.in0, .int .i64 C.in1, .slice G n c, .slice O q d] 30)
  have p1 := Blk.new w #[.int .i64 C.in0, .int .i64 C.in1, .slice G n c, .slice O q d] 30
  have h1 := h.below B1
  obtain ⟨W1, hW1⟩ : ∃ W, W = w.alloc (.cells #[.int .i64 C.in0, .int .i64 C.in1, .slice G n c, .slice O q d] 30) := ⟨_, rfl⟩
  rw [← hW1] at B1 p1 h1
  clear h hm
  obtain ⟨ok, hok⟩ : ∃ ok, gd C = ok := ⟨_, rfl⟩
  have HG := Lib.hid (isCircuit_any _ C ok W1 h1 (fitLen hf) hok)
  obtain ⟨k0, k1, k2, k3⟩ := p1.four
  cases ok with
  | false =>
    have e := HM.out
    rw [m_UsedWires, hok] at e
    obtain ⟨rfl, rfl⟩ := Prod.mk.inj e
    clear e
    go_enter Try.func31, Try.ntmps31
    go_wp2_with fail
    rw [← hW1]
    refine (HG.out).mono ?_
    rintro e w2 ⟨rfl, b2⟩
    go_wp2_with fail
    go_ret2
    exact ⟨none, 0, 0, rfl, Own.nil_ _ _, by omega, B1.trans (b2.mono B1.size)⟩
  | true =>
    have e := HM.out
    rw [m_UsedWires, if_pos hok] at e
    obtain ⟨e1, rfl⟩ := Prod.mk.inj e
    have HR := Lib.hid e1
    have hGood := gd_yes hok
    have HGood := Lib.hid hGood
    clear e e1 hok hGood
    go_enter Try.func31, Try.ntmps31
    go_wp2_with fail
    rw [← hW1]
    clear hW1
    refine (HG.out).mono ?_
    rintro e w2 ⟨rfl, b2⟩
    have p2 := p1.below' b2
    have B2 := B1.trans (b2.mono B1.size)
    have h2 := h1.below b2
    clear p1 h1 B1 HG k0 k1 k2 k3
    obtain ⟨k0, k1, k2, k3⟩ := p2.four
    go_wp2_with fail
    refine (callsIn_wide.1 (usesOf_in _ C w2 h2 HGood.out)).mono ?_
    rintro e w3 ⟨b, k, rfl, hb3, hk, hM, b3⟩
    have B3 := B2.trans (b3.mono B2.size)
    go_wp2_with fail
    refine (keys_any b w3).mono ?_
    rintro e w4 ⟨rfl, hw4⟩
    have b4 := belowNew w3 (.cells #[.map (some b)] 72)
    have y4 := Blk.new w3 #[.map (some b)] 72
    have hM4 := hM.below b4 hM.lt
    rw [← hw4] at b4 y4 hM4
    have B4 := B3.trans (b4.mono B3.size)
    clear hw4
    go_wp2_with fail
    refine (sortedKeys_any b k w3.heap.size _ w4 (y4.cell (i := 0) rfl) hM4 (by omega)).mono ?_
    rintro e w5 ⟨R, m, c', ss, rfl, ho, hri, hmem, hm5, b5⟩
    have es : ss = rs := (usedL_is HGood.out hri (fun y => (hmem y).trans (usesAt_all C y))).trans HR.out
    subst es
    go_wp2_with fail
    go_ret2
    exact ⟨R, m, c', rfl, ho.mono B4.size, by omega, B4.trans (b5.mono B4.size)⟩

end Go.Proofs.Ytaohgbkhmgfnhaa
