/- The program compares and chooses: equal, choose, less, greatest. For lists of at most 1000 wires. -/
import Derived.Test.YteiibneaihdmbaaGdI6
namespace Go.Proofs.Yteiibneaihdmbaa
open Go Go.RowKit
set_option maxRecDepth 100000

set_option maxHeartbeats 1000000 in
theorem gmChoose_any (s : Int) (A : Option Addr) (na ca : Nat) (us : List Int) (A2 : Option Addr) (nb cb : Nat) (vs : List Int) (q B N0 N1 : Nat) (R : Option Addr) (n c : Nat) (G : List Ga) (w : World) (hM : Mk w 82 q B N0 N1 R n c G) (h0 : N0 ≤ 1000) (h1 : N1 ≤ 1000) (hn : n ≤ 900000) (hA : HasI w A na us) (hB : HasI w A2 nb vs) (hab : na ≤ nb) (ha : na ≤ 1000) :
    Calls Try.prog 147 #[.pointer (some ⟨q, 0, none⟩), .int .i64 s, .slice A na ca, .slice A2 nb cb] w fun e w' => ∃ (R' : Option Addr) (n' c' : Nat) (O : Option Addr) (G' : List Ga) (os : List Int), e = .returned (.slice O na na) ∧ Hid (eachTo (pickStep (N0 + N1) s us vs) G na = (G', os)) ∧ Own w' w.heap.size O na na os ∧ Mk w' 82 q B N0 N1 R' n' c' G' ∧ MkTo q w (blockOf R) w' (blockOf R') := by
  have y1 := Blk.new w #[.pointer (some ⟨q, 0, none⟩)] 120
  have b1 := belowNew w (.cells #[.pointer (some ⟨q, 0, none⟩)] 120)
  obtain ⟨w1, hw1⟩ : ∃ W, W = w.alloc (.cells #[.pointer (some ⟨q, 0, none⟩)] 120) := ⟨_, rfl⟩
  rw [← hw1] at y1 b1
  have s1 : w1.heap.size = w.heap.size + 1 := by rw [hw1]; simp
  have y2 := Blk.newAt (k := w.heap.size + 1) w1 #[.int .i64 s] 3 s1.symm
  have b2 := belowNew w1 (.cells #[.int .i64 s] 3)
  obtain ⟨w2, hw2⟩ : ∃ W, W = w1.alloc (.cells #[.int .i64 s] 3) := ⟨_, rfl⟩
  rw [← hw2] at y2 b2
  have x2 := y1.below' b2
  have B2 := b1.trans (b2.mono b1.size)
  have sz := B2.size
  have HC := Lib.hid (eachPick_any A na ca us A2 nb cb vs w.heap.size (w.heap.size + 1) s q B N0 N1 R n c G w2 (hM.below B2) h0 h1 hn (hA.below B2) (hB.below B2) hab ha x2 y2)
  have HB2 := Lib.hid B2
  clear y1 b1 y2 b2 x2 B2 s1
  go_enter Try.func147, Try.ntmps147
  go_wp2_with fail
  rw [← hw1, ← hw2]
  clear hw1 hw2
  refine call_eq (args1 := #[.slice A na ca, .slice A2 nb cb, .func (.func 165) #[] #[.pointer (some ⟨w.heap.size, 0, none⟩), .pointer (some ⟨w.heap.size + 1, 0, none⟩)]]) (w1 := w2) (by simp) rfl (Calls.mono HC.out ?_)
  rintro e w3 ⟨R', n', c', O, G', os, rfl, h2, h3, h4, h5⟩
  go_wp2_with fail
  go_ret
  exact ⟨R', n', c', O, G', os, rfl, h2, h3.mono sz, h4, MkTo.after HB2.out h5⟩

set_option maxHeartbeats 1000000 in
theorem gmLess_any (q B N0 N1 : Nat) (R : Option Addr) (n c : Nat) (G : List Ga) (A : Option Addr) (na ca : Nat) (us : List Int) (A2 : Option Addr) (nb cb : Nat) (vs : List Int) (w : World) (hM : Mk w 82 q B N0 N1 R n c G) (h0 : N0 ≤ 1000) (h1 : N1 ≤ 1000) (hn : n ≤ 900000) (hA : HasI w A na us) (hB : HasI w A2 nb vs) (hab : na ≤ nb) (ha0 : 0 < na) (ha : na ≤ 1000) :
    Calls Try.prog 146 #[.pointer (some ⟨q, 0, none⟩), .slice A na ca, .slice A2 nb cb] w fun e w' => ∃ (R' : Option Addr) (n' c' g cO : Nat), e = .returned (.slice (some ⟨g, na, none⟩) 1 (cO - na)) ∧ Own w' w.heap.size (some ⟨g, 0, none⟩) (na + 1) cO (carOuts (subStep (N0 + N1)) G us vs na) ∧ Mk w' 82 q B N0 N1 R' n' c' (carTo (subStep (N0 + N1)) G us vs na).1 ∧ MkTo q w (blockOf R) w' (blockOf R') := by
  have HC := Lib.hid (gmSub_any q B N0 N1 R n c G A na ca us A2 nb cb vs w hM h0 h1 hn hA hB hab ha0 ha)
  clear hM hA hB
  go_enter Try.func146, Try.ntmps146
  go_wp2_with fail
  refine (HC.out).mono ?_
  rintro e w2 ⟨R', n', c', O, cO, rfl, h2, h3, h4⟩
  obtain ⟨g, rfl⟩ := h2.spot (Nat.succ_pos na)
  have hc := h2.capLe
  have hc2 : na < cO := by omega
  have hne : ¬ na = cO := by omega
  have i0 : (na : Int) ≤ (na : Int) + 1 := by omega
  have i2 : (na : Int) ≤ (cO : Int) := by omega
  go_wp2_with fail
  go_ret
  exact ⟨R', n', c', g, cO, by simp, h2, h3, h4⟩

end Go.Proofs.Yteiibneaihdmbaa
