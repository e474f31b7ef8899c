/- The program multiplies: the gates and the wires. For numbers of at most 8 bits. -/
import Derived.Test.YtnelcbjegbchkaaGdI3
import Derived.Test.YtnelcbjegbchkaaGdI6
import Derived.Test.YtnelcbjegbchkaaGdT1
namespace Go.Proofs.Ytnelcbjegbchkaa
open Go Go.RowKit
set_option maxRecDepth 100000

set_option maxHeartbeats 1000000 in
theorem mulBit1_any (i u v : Int) (bm bs : Nat) (q B N0 N1 : Nat) (R : Option Addr) (n c : Nat) (G : List Ga) (w : World) (hM : Mk w 85 q B N0 N1 R n c G) (h0 : N0 ≤ 1000) (h1 : N1 ≤ 1000) (hn : n ≤ 999990) (hbm : Blk w bm #[.pointer (some ⟨q, 0, none⟩)] 112) (hbs : Blk w bs #[.int .i64 v] 3) :
    Calls Try.prog 214 #[.int .i64 i, .int .i64 u, .pointer (some ⟨bm, 0, none⟩), .pointer (some ⟨bs, 0, none⟩)] w fun e w' => ∃ (R' : Option Addr) (c' : Nat) (z : Int), e = .returned (.int .i64 z) ∧ Hid (z = ((N0 + N1 + n : Nat) : Int)) ∧ Mk w' 85 q B N0 N1 R' (n + 1) c' (G ++ [(1, u, v)]) ∧ MkTo q w (blockOf R) w' (blockOf R') := by
  have HC := Lib.hid (gmAnd_any u v q B N0 N1 R n c G w hM h0 h1 (by omega))
  have cm := hbm.cell (i := 0) rfl
  have cs := hbs.cell (i := 0) rfl
  clear hM hbm hbs
  go_enter Try.func214, Try.ntmps214
  go_wp2_with fail
  refine (HC.out).mono ?_
  rintro e w2 ⟨R', c', z, rfl, hz, M2, T2⟩
  go_wp2_with fail
  go_ret
  exact ⟨R', c', z, rfl, hz, M2, T2⟩

set_option maxRecDepth 100000 in
set_option maxHeartbeats 2000000 in
theorem changedMul_any (bm bs : Nat) (A : Option Addr) (na ca : Nat) (us : List Int) (v : Int) (q B N0 N1 : Nat) (R : Option Addr) (n c : Nat) (G : List Ga) (w : World) (hM : Mk w 85 q B N0 N1 R n c G) (h0 : N0 ≤ 1000) (h1 : N1 ≤ 1000) (hn : n ≤ 900000) (hA : HasI w A na us) (ha : na ≤ 1000) (hbm : Blk w bm #[.pointer (some ⟨q, 0, none⟩)] 112) (hbs : Blk w bs #[.int .i64 v] 3) :
    Calls Try.prog 86 #[.slice A na ca, .func (.func 214) #[] #[.pointer (some ⟨bm, 0, none⟩), .pointer (some ⟨bs, 0, none⟩)]] w fun e w' => ∃ (R' : Option Addr) (n' c' : Nat) (O : Option Addr) (G' : List Ga) (os : List Int), e = .returned (.slice O na na) ∧ Hid (eachTo (andStep (N0 + N1) v us) G na = (G', os)) ∧ Own w' w.heap.size O na na os ∧ Mk w' 85 q B N0 N1 R' n' c' G' ∧ MkTo q w (blockOf R) w' (blockOf R') := by
  have HLs : Hid ((eachTo (andStep (N0 + N1) v us) G na).2.length = na) := eachTo_length _ _ _
  have HPre : Hid (∀ j, j < na → (vals (eachTo (andStep (N0 + N1) v us) G na).2)[j]? = some (.int .i64 ((eachTo (andStep (N0 + N1) v us) G (j + 1)).2.getD j 0))) := fun j hj => by
    rw [vals_at _ _ (by rw [eachTo_length]; exact hj), eachTo_pre _ _ hj]
  go_enter Try.func86, Try.ntmps86
  go_wp2_with (at_make; refine makeInts _ rfl _ rfl na rfl (by omega) ?_; intro w1 hf hb1)
  have hf := hf (vals (eachTo (andStep (N0 + N1) v us) G na).2)
  have M1 := hM.below hb1
  have T1 := (MkTo.refl q w (blockOf R)).next hb1
  go_loopw [13] (fun iv wr => ∃ (k : Nat) (R' : Option Addr) (n' c' : Nat) (Gk : List Ga) (ok : List Int), k ≤ na ∧ iv = .int .i64 k ∧ Hid (eachTo (andStep (N0 + N1) v us) G k = (Gk, ok)) ∧ n' ≤ n + k ∧ Filled wr w.heap.size 3 w.heap.size na (vals (eachTo (andStep (N0 + N1) v us) G na).2) (fun j => j < k) ∧ Mk wr 85 q B N0 N1 R' n' c' Gk ∧ MkTo q w (blockOf R) wr (blockOf R')) (fun iv _ => na - (intOf iv).toNat)
  case atStart => exact ⟨0, R, n, c, G, [], Nat.zero_le _, rfl, rfl, by omega, hf, M1, T1⟩
  case round =>
    obtain ⟨k, R3, n3, c3, Gk, ok, hk, rfl, HS, hn3, hf3, M3, T3⟩ := hrel
    by_cases hlt : k < na
    · have hA3 := hA.to T3 hM
      have m3 := hbm.mk T3 hM (by decide) (by decide)
      have s3 := hbs.mk T3 hM (by decide) (by decide)
      obtain ⟨ad, u, rfl, hcu, HU⟩ := hA3.1.elem hlt
      have HG3 := Lib.hid M3.len
      have HC := Lib.hid (mulBit1_any (k : Int) u v bm bs q B N0 N1 R3 n3 c3 Gk wr M3 h0 h1 (by omega) m3 s3)
      have q0 : (0 : Int) ≤ (k : Int) := by omega
      have q1 : (k : Int) < (na : Int) := by omega
      clear hA3 m3 s3
      go_wp2_with fail
      refine (HC.out).mono ?_
      rintro e w4 ⟨R4, c4, z4, rfl, hs4, M4, t4⟩
      have hf4 := hf3.mk t4 M3
      have T4 := T3.trans t4
      obtain ⟨y4, hy4⟩ := hf4.cell hlt
      have fr4 := hf4.free k
      have key : Hid (eachTo (andStep (N0 + N1) v us) G (k + 1) = (Gk ++ [(1, u, v)], ok ++ [z4])) := by
        show _ = _
        rw [eachTo_succ, HS.out]
        simp only [andStep]
        rw [← HU.out, HG3.out, hs4.out]
      have HP : Hid ((vals (eachTo (andStep (N0 + N1) v us) G na).2)[k]? = some (.int .i64 z4)) := by
        show _ = _
        rw [HPre.out k hlt, key.out]
        have hl : ok.length = k := by have := eachTo_length (andStep (N0 + N1) v us) G k; rw [HS.out] at this; exact this
        simp [List.getD, hl]
      clear HC t4 M3 hf3 T3
      go_wp2_with fail
      have M5 := M4.wrote hf4 k (.int .i64 z4)
      have T5 := T4.grown (grown_setCell (World.grownBy.refl w4 (some w.heap.size)) k (.int .i64 z4)) (fun x e => by injection e with e; omega)
      have hf5 := hf4.put (D' := fun j => j < k + 1) hlt HP.out (by intro j _ hj; omega)
      go_roundw
      case rel => exact ⟨k + 1, R4, n3 + 1, c4, _, _, by omega, by go_num, key, by omega, hf5, M5, T5⟩
      case measure => simp [intOf]; omega
    · obtain rfl : k = na := by omega
      go_wp2_with fail
      go_ret
      refine ⟨R3, n3, c3, some ⟨w.heap.size, 0, none⟩, Gk, ok, rfl, HS, ?_, M3, T3⟩
      have h9 := hf3.full (by rw [vals_length, HLs.out]) (fun j hj => hj)
      have hl := HLs.out
      rw [HS.out] at h9 hl
      exact ⟨hl, h9⟩

set_option maxHeartbeats 1000000 in
theorem gmMulBit_any (A : Option Addr) (na ca : Nat) (us : List Int) (v : Int) (q B N0 N1 : Nat) (R : Option Addr) (n c : Nat) (G : List Ga) (w : World) (hM : Mk w 85 q B N0 N1 R n c G) (h0 : N0 ≤ 1000) (h1 : N1 ≤ 1000) (hn : n ≤ 900000) (hA : HasI w A na us) (ha : na ≤ 1000) :
    Calls Try.prog 191 #[.pointer (some ⟨q, 0, none⟩), .slice A na ca, .int .i64 v] w fun e w' => ∃ (R' : Option Addr) (n' c' : Nat) (O : Option Addr) (G' : List Ga) (os : List Int), e = .returned (.slice O na na) ∧ Hid (eachTo (andStep (N0 + N1) v us) G na = (G', os)) ∧ Own w' w.heap.size O na na os ∧ Mk w' 85 q B N0 N1 R' n' c' G' ∧ MkTo q w (blockOf R) w' (blockOf R') := by
  have y1 := Blk.new w #[.pointer (some ⟨q, 0, none⟩)] 112
  have b1 := belowNew w (.cells #[.pointer (some ⟨q, 0, none⟩)] 112)
  obtain ⟨w1, hw1⟩ : ∃ W, W = w.alloc (.cells #[.pointer (some ⟨q, 0, none⟩)] 112) := ⟨_, rfl⟩
  rw [← hw1] at y1 b1
  have s1 : w1.heap.size = w.heap.size + 1 := by rw [hw1]; simp
  have y2 := Blk.newAt (k := w.heap.size + 1) w1 #[.int .i64 v] 3 s1.symm
  have b2 := belowNew w1 (.cells #[.int .i64 v] 3)
  obtain ⟨w2, hw2⟩ : ∃ W, W = w1.alloc (.cells #[.int .i64 v] 3) := ⟨_, rfl⟩
  rw [← hw2] at y2 b2
  have x2 := y1.below' b2
  have B2 := b1.trans (b2.mono b1.size)
  have sz := B2.size
  have HC := Lib.hid (changedMul_any w.heap.size (w.heap.size + 1) A na ca us v q B N0 N1 R n c G w2 (hM.below B2) h0 h1 hn (hA.below B2) ha x2 y2)
  have HB2 := Lib.hid B2
  clear y1 b1 y2 b2 x2 B2 s1 hM hA
  go_enter Try.func191, Try.ntmps191
  go_wp2_with fail
  rw [← hw1, ← hw2]
  clear hw1 hw2
  refine call_eq (args1 := #[.slice A na ca, .func (.func 214) #[] #[.pointer (some ⟨w.heap.size, 0, none⟩), .pointer (some ⟨w.heap.size + 1, 0, none⟩)]]) (w1 := w2) (by simp) rfl (Calls.mono HC.out ?_)
  rintro e w3 ⟨R', n', c', O, G', os, rfl, h2, h3, h4, h5⟩
  go_wp2_with fail
  go_ret
  exact ⟨R', n', c', O, G', os, rfl, h2, h3.mono sz, h4, MkTo.after HB2.out h5⟩

set_option maxHeartbeats 1000000 in
theorem gmZero_any (q B N0 N1 : Nat) (R : Option Addr) (n c : Nat) (G : List Ga) (w : World) (hM : Mk w 85 q B N0 N1 R n c G) (h0 : N0 ≤ 1000) (h1 : N1 ≤ 1000) (hn : n ≤ 999990) :
    Calls Try.prog 192 #[.pointer (some ⟨q, 0, none⟩)] w fun e w' => ∃ (R' : Option Addr) (c' : Nat) (z : Int), e = .returned (.int .i64 z) ∧ Hid (z = ((N0 + N1 + n + 1 : Nat) : Int)) ∧ Mk w' 85 q B N0 N1 R' (n + 2) c' (G ++ [(3, 0, 0), (2, ((N0 + N1 + n : Nat) : Int), 0)]) ∧ MkTo q w (blockOf R) w' (blockOf R') := by
  have T1 := MkTo.refl q w (blockOf R)
  obtain ⟨w1, hw1⟩ : ∃ w1, w1 = w := ⟨_, rfl⟩
  have M1 : Mk w1 85 q B N0 N1 R n c G := by rw [hw1]; exact hM
  have T1 : MkTo q w (blockOf R) w1 (blockOf R) := by rw [hw1]; exact T1
  clear hM
  go_enter Try.func192, Try.ntmps192
  go_wp2_with fail
  rw [← hw1]
  clear hw1
  refine (gmOne_any  q B N0 N1 _ _ _ _ _ M1 h0 h1 (by omega)).mono ?_
  rintro e w2 ⟨R2, c2, z2, rfl, hz2, M2, t2⟩
  have T2 := T1.trans t2
  clear t2 T1 M1 
  go_wp2_with fail
  refine (gmNot_any z2 q B N0 N1 _ _ _ _ _ M2 h0 h1 (by omega)).mono ?_
  rintro e w3 ⟨R3, c3, z3, rfl, hz3, M3, t3⟩
  have T3 := T2.trans t3
  clear t3 T2 M2 
  go_wp2_with fail
  go_ret
  refine ⟨R3, c3, z3, rfl, ?_, ?_, T3⟩
  · rw [hz3.out]; rfl
  · rw [← hz2.out]; simpa using M3

end Go.Proofs.Ytnelcbjegbchkaa
