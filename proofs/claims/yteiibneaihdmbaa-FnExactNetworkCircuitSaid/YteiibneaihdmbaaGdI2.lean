/- The program's steps of adding and subtracting: the gates, the sum or difference, the new carry or borrow. For at most 1000 inputs of each party and 999990 gates. -/
import Derived.Test.YteiibneaihdmbaaGdI1
import Derived.Test.YteiibneaihdmbaaGdM1
namespace Go.Proofs.Yteiibneaihdmbaa
open Go Go.RowKit
set_option maxRecDepth 100000

set_option maxHeartbeats 2000000 in
theorem subtractFirst_any (u v : Int) (q B N0 N1 : Nat) (R : Option Addr) (n c : Nat) (G : List Ga) (w : World) (hM : Mk w 82 q B N0 N1 R n c G) (h0 : N0 ≤ 1000) (h1 : N1 ≤ 1000) (hn : n ≤ 999990) :
    Calls Try.prog 173 #[.pointer (some ⟨q, 0, none⟩), .int .i64 u, .int .i64 v] w fun e w' => ∃ (R' : Option Addr) (n' c' : Nat) (G' : List Ga) (y z : Int), e = .returned (.tuple #[.int .i64 y, .int .i64 z]) ∧ Hid (subStep (N0 + N1) 0 u v (-1) G = (G', y, z)) ∧ n' ≤ n + 6 ∧ Mk w' 82 q B N0 N1 R' n' c' G' ∧ MkTo q w (blockOf R) w' (blockOf R') := by
  have HG1 := Lib.hid hM.len
  have M1 := hM
  have T1 := MkTo.refl q w (blockOf R)
  clear hM
  obtain ⟨w1, hw1⟩ : ∃ w1, w1 = w := ⟨_, rfl⟩
  have M1 : Mk w1 82 q B N0 N1 R n c G := by rw [hw1]; exact M1
  have T1 : MkTo q w (blockOf R) w1 (blockOf R) := by rw [hw1]; exact T1
  go_enter Try.func173, Try.ntmps173
  go_wp2_with fail
  rw [← hw1]
  clear hw1
  refine (gmXor_any u v q B N0 N1 _ _ _ _ _ M1 h0 h1 (by omega)).mono ?_
  rintro e w2 ⟨R2, c2, z2, rfl, hz2, M2, t2⟩
  have T2 := T1.trans t2
  clear t2 T1 M1 
  go_wp2_with fail
  refine (gmNot_any u q B N0 N1 _ _ _ _ _ M2 h0 h1 (by omega)).mono ?_
  rintro e w3 ⟨R3, c3, z3, rfl, hz3, M3, t3⟩
  have T3 := T2.trans t3
  clear t3 T2 M2 
  go_wp2_with fail
  refine (gmAnd_any z3 v q B N0 N1 _ _ _ _ _ M3 h0 h1 (by omega)).mono ?_
  rintro e w4 ⟨R4, c4, z4, rfl, hz4, M4, t4⟩
  have T4 := T3.trans t4
  clear t4 T3 M3 
  have key : Hid (subStep (N0 + N1) 0 u v (-1) G = (G ++ [(0, u, v), (2, u, 0), (1, z3, v)], z2, z4)) := by
    show _ = _
    rw [hz2.out, hz3.out, hz4.out]
    simp [subStep, HG1.out]
    try omega
  go_wp2_with fail
  go_ret2
  exact ⟨_, n + 1 + 1 + 1, _, _, z2, z4, rfl, key, by omega, by simpa using M4, T4⟩

set_option maxHeartbeats 2000000 in
theorem subtractNext_any (u v k : Int) (i : Nat) (hi : 0 < i) (q B N0 N1 : Nat) (R : Option Addr) (n c : Nat) (G : List Ga) (w : World) (hM : Mk w 82 q B N0 N1 R n c G) (h0 : N0 ≤ 1000) (h1 : N1 ≤ 1000) (hn : n ≤ 999990) :
    Calls Try.prog 174 #[.pointer (some ⟨q, 0, none⟩), .int .i64 u, .int .i64 v, .int .i64 k] w fun e w' => ∃ (R' : Option Addr) (n' c' : Nat) (G' : List Ga) (y z : Int), e = .returned (.tuple #[.int .i64 y, .int .i64 z]) ∧ Hid (subStep (N0 + N1) i u v k G = (G', y, z)) ∧ n' ≤ n + 6 ∧ Mk w' 82 q B N0 N1 R' n' c' G' ∧ MkTo q w (blockOf R) w' (blockOf R') := by
  have HG1 := Lib.hid hM.len
  have M1 := hM
  have T1 := MkTo.refl q w (blockOf R)
  clear hM
  obtain ⟨w1, hw1⟩ : ∃ w1, w1 = w := ⟨_, rfl⟩
  have M1 : Mk w1 82 q B N0 N1 R n c G := by rw [hw1]; exact M1
  have T1 : MkTo q w (blockOf R) w1 (blockOf R) := by rw [hw1]; exact T1
  go_enter Try.func174, Try.ntmps174
  go_wp2_with fail
  rw [← hw1]
  clear hw1
  refine (gmXor_any u k q B N0 N1 _ _ _ _ _ M1 h0 h1 (by omega)).mono ?_
  rintro e w2 ⟨R2, c2, z2, rfl, hz2, M2, t2⟩
  have T2 := T1.trans t2
  clear t2 T1 M1 
  go_wp2_with fail
  refine (gmXor_any v k q B N0 N1 _ _ _ _ _ M2 h0 h1 (by omega)).mono ?_
  rintro e w3 ⟨R3, c3, z3, rfl, hz3, M3, t3⟩
  have T3 := T2.trans t3
  clear t3 T2 M2 
  go_wp2_with fail
  refine (gmXor_any z2 v q B N0 N1 _ _ _ _ _ M3 h0 h1 (by omega)).mono ?_
  rintro e w4 ⟨R4, c4, z4, rfl, hz4, M4, t4⟩
  have T4 := T3.trans t4
  clear t4 T3 M3 
  go_wp2_with fail
  refine (gmNot_any z2 q B N0 N1 _ _ _ _ _ M4 h0 h1 (by omega)).mono ?_
  rintro e w5 ⟨R5, c5, z5, rfl, hz5, M5, t5⟩
  have T5 := T4.trans t5
  clear t5 T4 M4 
  go_wp2_with fail
  refine (gmAnd_any z5 z3 q B N0 N1 _ _ _ _ _ M5 h0 h1 (by omega)).mono ?_
  rintro e w6 ⟨R6, c6, z6, rfl, hz6, M6, t6⟩
  have T6 := T5.trans t6
  clear t6 T5 M5 
  go_wp2_with fail
  refine (gmXor_any z6 k q B N0 N1 _ _ _ _ _ M6 h0 h1 (by omega)).mono ?_
  rintro e w7 ⟨R7, c7, z7, rfl, hz7, M7, t7⟩
  have T7 := T6.trans t7
  clear t7 T6 M6 
  have key : Hid (subStep (N0 + N1) i u v k G = (G ++ [(0, u, k), (0, v, k), (0, z2, v), (2, z2, 0), (1, z5, z3), (0, z6, k)], z4, z7)) := by
    show _ = _
    rw [hz2.out, hz3.out, hz4.out, hz5.out, hz6.out, hz7.out]
    simp [subStep, HG1.out, show ¬ i = 0 by omega]
    try omega
  go_wp2_with fail
  go_ret2
  exact ⟨_, n + 1 + 1 + 1 + 1 + 1 + 1, _, _, z4, z7, rfl, key, by omega, by simpa using M7, T7⟩

end Go.Proofs.Yteiibneaihdmbaa
