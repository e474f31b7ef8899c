/- The model's maker of circuits makes one gate. For at most 1000 inputs of each party and 1000000 gates. -/
import Derived.Test.YteiibneaihdmbaaGdW1
import Derived.Test.YteiibneaihdmbaaCirG1
namespace Go.Proofs.Yteiibneaihdmbaa
open Go Go.RowKit
set_option maxRecDepth 100000

set_option maxHeartbeats 2000000 in
theorem mkGate_any (k a b : Int) (q B N0 N1 : Nat) (R : Option Addr) (n c : Nat) (G : List Ga) (w : World) (hM : Mk w 118 q B N0 N1 R n c G) (h0 : N0 ≤ 1000) (h1 : N1 ≤ 1000) (hn : n ≤ 1000000) :
    Calls Try.prog 168 #[.pointer (some ⟨q, 0, none⟩), .int .i64 k, .int .i64 a, .int .i64 b] w fun e w' => ∃ (R' : Option Addr) (c' : Nat) (z : Int), e = .returned (.int .i64 z) ∧ Hid (z = ((N0 + N1 + n : Nat) : Int)) ∧ Mk w' 118 q B N0 N1 R' (n + 1) c' (G ++ [(k, a, b)]) ∧ MkTo q w (blockOf R) w' (blockOf R') := by
  have hlt := hM.lt
  have hbase := hM.base
  obtain ⟨k0, k1, k2, k3⟩ := hM.blk.four
  have own := hM.own
  have HM := Lib.hid hM
  clear hM
  go_enter Try.func168, Try.ntmps168
  go_wp2_with (at_builtin; refine appendGateAt w rfl (.tmp 14) (.tmp 19) rfl k a b B R n c G rfl rfl own (by omega) (by omega) ?_; intro R1 c1 w1 own1 g1 row1; obtain ⟨M2, T2⟩ := HM.out.put g1 own1 row1; have y1 := HM.out.blk.grown g1 (HM.out.apartB); obtain ⟨y10, y11, y12, y13⟩ := y1.four; have f2 := y1.free 2; have HM2 := Lib.hid M2; have HT2 := Lib.hid T2; clear M2 T2 own1 g1 row1 y1 own)
  refine (ciWires_any _ ⟨(N0 : Int), (N1 : Int), G ++ [(k, a, b)], []⟩ _ HM2.out.hasC (by simp only; omega) (by simp only; omega) (by simp only; omega) (by simp only; omega) (by have := HM2.out.len; simp only; omega)).mono ?_
  rintro e w3 ⟨rfl, b3⟩
  have hz : (⟨(N0 : Int), (N1 : Int), G ++ [(k, a, b)], []⟩ : Ci).wires = ((N0 + N1 + n : Nat) : Int) + 1 := by have := HM2.out.len; simp only [Ci.wires]; omega
  rw [hz]
  obtain ⟨z, hzz⟩ : ∃ z : Int, z = ((N0 + N1 + n : Nat) : Int) := ⟨_, rfl⟩
  rw [← hzz]
  have hwr : wrap64 z = z := by unfold wrap64; omega
  have M3 := HM2.out.below b3
  have T3 := HT2.out.next b3
  have HZ := Lib.hid hzz
  clear hz hzz
  go_wp2_with fail
  go_ret
  exact ⟨R1, c1, z, retI hwr, HZ, M3, T3⟩

set_option maxHeartbeats 1000000 in
theorem mkXor_any (a b : Int) (q B N0 N1 : Nat) (R : Option Addr) (n c : Nat) (G : List Ga) (w : World) (hM : Mk w 118 q B N0 N1 R n c G) (h0 : N0 ≤ 1000) (h1 : N1 ≤ 1000) (hn : n ≤ 1000000) :
    Calls Try.prog 160 #[.pointer (some ⟨q, 0, none⟩), .int .i64 a, .int .i64 b] w fun e w' => ∃ (R' : Option Addr) (c' : Nat) (z : Int), e = .returned (.int .i64 z) ∧ Hid (z = ((N0 + N1 + n : Nat) : Int)) ∧ Mk w' 118 q B N0 N1 R' (n + 1) c' (G ++ [(0, a, b)]) ∧ MkTo q w (blockOf R) w' (blockOf R') := by
  have HC := Lib.hid (mkGate_any 0 a b q B N0 N1 R n c G w hM h0 h1 hn)
  clear hM
  go_enter Try.func160, Try.ntmps160
  go_wp2_with fail
  refine (HC.out).mono ?_
  rintro e w2 ⟨R', c', z, rfl, hz, M2, T2⟩
  go_wp2_with fail
  go_ret
  exact ⟨R', c', z, rfl, hz, M2, T2⟩

set_option maxHeartbeats 1000000 in
theorem mkAnd_any (a b : Int) (q B N0 N1 : Nat) (R : Option Addr) (n c : Nat) (G : List Ga) (w : World) (hM : Mk w 118 q B N0 N1 R n c G) (h0 : N0 ≤ 1000) (h1 : N1 ≤ 1000) (hn : n ≤ 1000000) :
    Calls Try.prog 162 #[.pointer (some ⟨q, 0, none⟩), .int .i64 a, .int .i64 b] w fun e w' => ∃ (R' : Option Addr) (c' : Nat) (z : Int), e = .returned (.int .i64 z) ∧ Hid (z = ((N0 + N1 + n : Nat) : Int)) ∧ Mk w' 118 q B N0 N1 R' (n + 1) c' (G ++ [(1, a, b)]) ∧ MkTo q w (blockOf R) w' (blockOf R') := by
  have HC := Lib.hid (mkGate_any 1 a b q B N0 N1 R n c G w hM h0 h1 hn)
  clear hM
  go_enter Try.func162, Try.ntmps162
  go_wp2_with fail
  refine (HC.out).mono ?_
  rintro e w2 ⟨R', c', z, rfl, hz, M2, T2⟩
  go_wp2_with fail
  go_ret
  exact ⟨R', c', z, rfl, hz, M2, T2⟩

set_option maxHeartbeats 1000000 in
theorem mkNot_any (a : Int) (q B N0 N1 : Nat) (R : Option Addr) (n c : Nat) (G : List Ga) (w : World) (hM : Mk w 118 q B N0 N1 R n c G) (h0 : N0 ≤ 1000) (h1 : N1 ≤ 1000) (hn : n ≤ 1000000) :
    Calls Try.prog 161 #[.pointer (some ⟨q, 0, none⟩), .int .i64 a] w fun e w' => ∃ (R' : Option Addr) (c' : Nat) (z : Int), e = .returned (.int .i64 z) ∧ Hid (z = ((N0 + N1 + n : Nat) : Int)) ∧ Mk w' 118 q B N0 N1 R' (n + 1) c' (G ++ [(2, a, 0)]) ∧ MkTo q w (blockOf R) w' (blockOf R') := by
  have HC := Lib.hid (mkGate_any 2 a 0 q B N0 N1 R n c G w hM h0 h1 hn)
  clear hM
  go_enter Try.func161, Try.ntmps161
  go_wp2_with fail
  refine (HC.out).mono ?_
  rintro e w2 ⟨R', c', z, rfl, hz, M2, T2⟩
  go_wp2_with fail
  go_ret
  exact ⟨R', c', z, rfl, hz, M2, T2⟩

end Go.Proofs.Yteiibneaihdmbaa
