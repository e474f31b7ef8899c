/- The program counts bits (addBit, count, CountCircuit). For at most 16 bits. -/
import Derived.Test.YtnmjnffnelkciaaGdC1
import Derived.Test.YtnmjnffnelkciaaGdI4
import Derived.Test.YtnmjnffnelkciaaGdI6
namespace Go.Proofs.Ytnmjnffnelkciaa
open Go Go.RowKit
set_option maxRecDepth 100000

theorem Mk.wroteAt {w : World} {t : TypeId} {q B N0 N1 n c g : Nat} {R : Option Addr} {G : List Ga} {cs : Array Value} (hM : Mk w t q B N0 N1 R n c G) (h : Blk w g cs 3) (k : Nat) (v : Value) : Mk (w.setCell ⟨g, k, none⟩ v) t q B N0 N1 R n c G := by
  have gs : w.grownBy (w.setCell ⟨g, k, none⟩ v) (some g) := grown_setCell (World.grownBy.refl _ _) _ _
  unfold Blk at h
  refine hM.kept gs ?_ ?_
  · simp
    rintro rfl
    have := hM.blk
    unfold Blk at this
    rw [this] at h
    injection h with h
    injection h with _ h
    exact hM.notInt h
  · intro ad e
    simp
    rintro rfl
    obtain ⟨zs, mm, hz⟩ := hM.typed ad e
    rw [hz] at h
    injection h with h
    injection h with _ h
    exact absurd h (by decide)

set_option maxHeartbeats 1000000 in
theorem addBit1_any (i u k : Int) (bm bc : Nat) (q B N0 N1 : Nat) (R : Option Addr) (n c : Nat) (G : List Ga) (w : World) (hM : Mk w 84 q B N0 N1 R n c G) (h0 : N0 ≤ 1000) (h1 : N1 ≤ 1000) (hn : n ≤ 999990) (hbm : Blk w bm #[.pointer (some ⟨q, 0, none⟩)] 45) (hbc : Blk w bc #[.int .i64 k] 3) :
    Calls Try.prog 131 #[.int .i64 i, .int .i64 u, .pointer (some ⟨bm, 0, none⟩), .pointer (some ⟨bc, 0, none⟩)] w fun e w' => ∃ (R' : Option Addr) (c' : Nat) (z y : Int) (wx : World), e = .returned (.int .i64 z) ∧ Hid (z = ((N0 + N1 + n : Nat) : Int) ∧ y = ((N0 + N1 + n + 1 : Nat) : Int)) ∧ Mk wx 84 q B N0 N1 R' (n + 2) c' (G ++ [(0, u, k), (1, u, k)]) ∧ MkTo q w (blockOf R) wx (blockOf R') ∧ Blk wx bm #[.pointer (some ⟨q, 0, none⟩)] 45 ∧ Blk wx bc #[.int .i64 k] 3 ∧ w' = wx.setCell ⟨bc, 0, none⟩ (.int .i64 y) := by
  have T1 := MkTo.refl q w (blockOf R)
  obtain ⟨w1, hw1⟩ : ∃ w1, w1 = w := ⟨_, rfl⟩
  have M1 : Mk w1 84 q B N0 N1 R n c G := by rw [hw1]; exact hM
  have T1 : MkTo q w (blockOf R) w1 (blockOf R) := by rw [hw1]; exact T1
  have y1 : Blk w1 bm #[.pointer (some ⟨q, 0, none⟩)] 45 := by rw [hw1]; exact hbm
  have x1 : Blk w1 bc #[.int .i64 k] 3 := by rw [hw1]; exact hbc
  have cm1 := hbm.cell (i := 0) rfl
  have cs1 := hbc.cell (i := 0) rfl
  clear hM hbm hbc
  go_enter Try.func131, Try.ntmps131
  go_wp2_with fail
  rw [← hw1]
  clear hw1 cm1 cs1
  refine (gmXor_any u k q B N0 N1 _ _ _ _ _ M1 h0 h1 (by omega)).mono ?_
  rintro e w2 ⟨R2, c2, z2, rfl, hz2, M2, t2⟩
  have T2 := T1.trans t2
  have y2 := y1.mk t2 M1 (by decide) (by decide)
  have x2 := x1.mk t2 M1 (by decide) (by decide)
  have cm2 := y2.cell (i := 0) rfl
  have cs2 := x2.cell (i := 0) rfl
  have fs2 := x2.free 0
  clear t2 T1 M1 y1 x1
  go_wp2_with fail
  refine (gmAnd_any u k q B N0 N1 _ _ _ _ _ M2 h0 h1 (by omega)).mono ?_
  rintro e w3 ⟨R3, c3, z3, rfl, hz3, M3, t3⟩
  have T3 := T2.trans t3
  have y3 := y2.mk t3 M2 (by decide) (by decide)
  have x3 := x2.mk t3 M2 (by decide) (by decide)
  have cm3 := y3.cell (i := 0) rfl
  have cs3 := x3.cell (i := 0) rfl
  have fs3 := x3.free 0
  clear t3 T2 M2 y2 x2
  go_wp2_with fail
  go_ret
  exact ⟨R3, c3, z2, z3, w3, rfl, ⟨hz2.out, by rw [hz3.out]; rfl⟩, by simpa using M3, T3, y3, x3, rfl⟩

set_option maxRecDepth 100000 in
set_option maxHeartbeats 2000000 in
theorem changedBit_any (A : Option Addr) (l ca : Nat) (ss : List Int) (k0 : Int) (bm bc : Nat) (w0 : World) (R0 : Option Addr) (n0 c0 : Nat) (G0 : List Ga) (q B N0 N1 : Nat) (R : Option Addr) (n c : Nat) (G : List Ga) (w : World) (hM : Mk w 84 q B N0 N1 R n c G) (h0 : N0 ≤ 1000) (h1 : N1 ≤ 1000) (hn : n ≤ 900000) (hM0 : Mk w0 84 q B N0 N1 R0 n0 c0 G0) (hT0 : MkTo q w0 (blockOf R0) w (blockOf R)) (hA : HasI w0 A l ss) (hl : l ≤ 1000) (hbm : Blk w bm #[.pointer (some ⟨q, 0, none⟩)] 45) (hbc : Blk w bc #[.int .i64 k0] 3) (hne : bm ≠ bc) (hbc0 : w0.heap.size ≤ bc) :
    Calls Try.prog 107 #[.slice A l ca, .func (.func 131) #[] #[.pointer (some ⟨bm, 0, none⟩), .pointer (some ⟨bc, 0, none⟩)]] w fun e w' => ∃ (R' : Option Addr) (n' c' : Nat) (O : Option Addr) (G' : List Ga) (os : List Int) (y : Int), e = .returned (.slice O l l) ∧ Hid (bitTo (N0 + N1) G ss k0 l = (G', os, y)) ∧ Own w' w.heap.size O l l os ∧ Blk w' bc #[.int .i64 y] 3 ∧ Mk w' 84 q B N0 N1 R' n' c' G' ∧ MkTo q w0 (blockOf R0) w' (blockOf R') := by
  have HLs : Hid ((bitTo (N0 + N1) G ss k0 l).2.1.length = l) := bitTo_sums _ _ _ _ _
  have HPre : Hid (∀ j, j < l → (vals (bitTo (N0 + N1) G ss k0 l).2.1)[j]? = some (.int .i64 ((bitTo (N0 + N1) G ss k0 (j + 1)).2.1.getD j 0))) := fun j hj => by
    rw [vals_at _ _ (by rw [bitTo_sums]; exact hj), bitTo_pre _ _ _ _ hj]
  have lbc := hbc.lt
  go_enter Try.func107, Try.ntmps107
  go_wp2_with (at_make; refine makeInts _ rfl _ rfl l rfl (by omega) ?_; intro w1 hf hb1)
  have hf := hf (vals (bitTo (N0 + N1) G ss k0 l).2.1)
  have M1 := hM.below hb1
  have T1 := hT0.next hb1
  have y1 := hbm.below' hb1
  have x1 := hbc.below' hb1
  have s0 : w0.heap.size ≤ w.heap.size := hT0.size
  go_loopw [13] (fun iv wr => ∃ (k : Nat) (R' : Option Addr) (n' c' : Nat) (Gk : List Ga) (ok : List Int) (yk : Int), k ≤ l ∧ iv = .int .i64 k ∧ Hid (bitTo (N0 + N1) G ss k0 k = (Gk, ok, yk)) ∧ n' ≤ n + 2 * k ∧ Filled wr w.heap.size 3 w.heap.size l (vals (bitTo (N0 + N1) G ss k0 l).2.1) (fun j => j < k) ∧ Blk wr bm #[.pointer (some ⟨q, 0, none⟩)] 45 ∧ Blk wr bc #[.int .i64 yk] 3 ∧ Mk wr 84 q B N0 N1 R' n' c' Gk ∧ MkTo q w0 (blockOf R0) wr (blockOf R')) (fun iv _ => l - (intOf iv).toNat)
  case atStart => exact ⟨0, R, n, c, G, [], k0, Nat.zero_le _, rfl, rfl, by omega, hf, y1, x1, M1, T1⟩
  case round =>
    obtain ⟨k, R3, n3, c3, Gk, ok, yk, hk, rfl, HS, hn3, hf3, y3, x3, M3, T3⟩ := hrel
    by_cases hlt : k < l
    · have hA3 := hA.to T3 hM0
      obtain ⟨ad, u, rfl, hcu, HU⟩ := hA3.1.elem hlt
      have q0 : (0 : Int) ≤ (k : Int) := by omega
      have q1 : (k : Int) < (l : Int) := by omega
      have HG3 := Lib.hid M3.len
      have HC := Lib.hid (addBit1_any (k : Int) u yk bm bc q B N0 N1 R3 n3 c3 Gk wr M3 h0 h1 (by omega) y3 x3)
      clear hA3
      go_wp2_with fail
      refine (HC.out).mono ?_
      rintro e w5 ⟨R4, c4, z4, y4, w4, rfl, hs4, M4, t4, y4b, x4, rfl⟩
      have hf4 := hf3.mk t4 M3
      have T4 := T3.trans t4
      have gb : w4.grownBy (w4.setCell ⟨bc, 0, none⟩ (.int .i64 y4)) (some bc) := grown_setCell (World.grownBy.refl _ _) _ _
      have hf5 := hf4.kept gb (by simp; omega)
      have M5 := M4.wroteAt x4 0 (.int .i64 y4)
      have T5 := T4.grown gb (fun x e => by injection e with e; omega)
      have y5 := y4b.other (b := bc) (fun e => hne e.symm) 0 (.int .i64 y4)
      have x5 := x4.set 0 (.int .i64 y4)
      obtain ⟨w5, hw5⟩ : ∃ W, W = w4.setCell ⟨bc, 0, none⟩ (.int .i64 y4) := ⟨_, rfl⟩
      rw [← hw5] at hf5 M5 T5 y5 x5 ⊢
      obtain ⟨v5, hv5⟩ := hf5.cell hlt
      have fr5 := hf5.free k
      have key : Hid (bitTo (N0 + N1) G ss k0 (k + 1) = (Gk ++ [(0, u, yk), (1, u, yk)], ok ++ [z4], y4)) := by
        show _ = _
        rw [bitTo_succ, HS.out]
        simp only
        rw [← HU.out, HG3.out, hs4.out.1, hs4.out.2]
      have HP : Hid ((vals (bitTo (N0 + N1) G ss k0 l).2.1)[k]? = some (.int .i64 z4)) := by
        show _ = _
        rw [HPre.out k hlt, key.out]
        have hl2 : ok.length = k := by have := bitTo_sums (N0 + N1) G ss k0 k; rw [HS.out] at this; exact this
        simp [List.getD, hl2]
      clear HC t4 M3 hf3 T3 M4 T4 hf4 gb y4b x4 hw5 y3 x3
      go_wp2_with fail
      have M6 := M5.wrote hf5 k (.int .i64 z4)
      have T6 := T5.grown (grown_setCell (World.grownBy.refl w5 (some w.heap.size)) k (.int .i64 z4)) (fun x e => by injection e with e; omega)
      have hf6 := hf5.put (D' := fun j => j < k + 1) hlt HP.out (by intro j _ hj; omega)
      have y6 := y5.grown (grown_setCell (World.grownBy.refl w5 (some w.heap.size)) k (.int .i64 z4)) (by simp; exact Nat.ne_of_lt hbm.lt)
      have x6 := x5.grown (grown_setCell (World.grownBy.refl w5 (some w.heap.size)) k (.int .i64 z4)) (by simp; exact Nat.ne_of_lt lbc)
      go_roundw
      case rel => exact ⟨k + 1, R4, n3 + 2, c4, _, _, y4, by omega, by go_num, key, by omega, hf6, y6, x6, M6, T6⟩
      case measure => simp [intOf]; omega
    · obtain rfl : k = l := by omega
      go_wp2_with fail
      go_ret
      refine ⟨R3, n3, c3, some ⟨w.heap.size, 0, none⟩, Gk, ok, yk, rfl, HS, ?_, x3, M3, T3⟩
      have h9 := hf3.full (by rw [vals_length, HLs.out]) (fun j hj => hj)
      have hl2 := HLs.out
      rw [HS.out] at h9 hl2
      exact ⟨hl2, h9⟩

set_option maxRecDepth 100000 in
set_option maxHeartbeats 1000000 in
theorem gmAddBit_any (A : Option Addr) (l ca : Nat) (ss : List Int) (k0 : Int) (q B N0 N1 : Nat) (R : Option Addr) (n c : Nat) (G : List Ga) (w : World) (hM : Mk w 84 q B N0 N1 R n c G) (h0 : N0 ≤ 1000) (h1 : N1 ≤ 1000) (hn : n ≤ 900000) (hA : HasI w A l ss) (hl : l ≤ 1000) :
    Calls Try.prog 102 #[.pointer (some ⟨q, 0, none⟩), .slice A l ca, .int .i64 k0] w fun e w' => ∃ (R' : Option Addr) (n' c' : Nat) (O : Option Addr) (G' : List Ga) (os : List Int) (y : Int), e = .returned (.tuple #[.slice O l l, .int .i64 y]) ∧ Hid (bitTo (N0 + N1) G ss k0 l = (G', os, y)) ∧ Own w' w.heap.size O l l os ∧ Mk w' 84 q B N0 N1 R' n' c' G' ∧ MkTo q w (blockOf R) w' (blockOf R') := by
  have y1 := Blk.new w #[.pointer (some ⟨q, 0, none⟩)] 45
  have b1 := belowNew w (.cells #[.pointer (some ⟨q, 0, none⟩)] 45)
  obtain ⟨w1, hw1⟩ : ∃ W, W = w.alloc (.cells #[.pointer (some ⟨q, 0, none⟩)] 45) := ⟨_, rfl⟩
  rw [← hw1] at y1 b1
  have s1 : w1.heap.size = w.heap.size + 1 := by rw [hw1]; simp
  have y2 := Blk.newAt (k := w.heap.size + 1) w1 #[.int .i64 k0] 3 s1.symm
  have b2 := belowNew w1 (.cells #[.int .i64 k0] 3)
  obtain ⟨w2, hw2⟩ : ∃ W, W = w1.alloc (.cells #[.int .i64 k0] 3) := ⟨_, rfl⟩
  rw [← hw2] at y2 b2
  have x2 := y1.below' b2
  have B2 := b1.trans (b2.mono b1.size)
  have sz := B2.size
  have HC := Lib.hid (changedBit_any A l ca ss k0 w.heap.size (w.heap.size + 1) w R n c G q B N0 N1 R n c G w2 (hM.below B2) h0 h1 hn hM ((MkTo.refl q w _).next B2) hA hl x2 y2 (by omega) (by omega))
  clear y1 b1 y2 b2 x2 B2 s1 hM hA
  go_enter Try.func102, Try.ntmps102
  go_upto_region 2 with fail
  rw [← hw1, ← hw2]
  clear hw1 hw2
  go_wp2_with fail
  refine call_eq (args1 := #[.slice A l ca, .func (.func 131) #[] #[.pointer (some ⟨w.heap.size, 0, none⟩), .pointer (some ⟨w.heap.size + 1, 0, none⟩)]]) (w1 := w2) (by simp) rfl (Calls.mono HC.out ?_)
  rintro e w3 ⟨R', n', c', O, G', os, y, rfl, h2, h3, h4, h5, h6⟩
  have cy := h4.cell (i := 0) rfl
  clear h4 HC
  go_wp2_with fail
  go_quiet (fail)
  go_wp2_with fail
  go_ret2
  exact ⟨R', n', c', O, G', os, y, rfl, h2, h3.mono sz, h5.drewN _, h6.drewN _⟩

set_option maxRecDepth 100000 in
set_option maxHeartbeats 2000000 in
theorem gmCount_any (q B N0 N1 : Nat) (R : Option Addr) (n c : Nat) (G : List Ga) (A : Option Addr) (na ca : Nat) (us : List Int) (Bo : Nat) (w : World) (hM : Mk w 84 q B N0 N1 R n c G) (h0 : N0 ≤ 1000) (h1 : N1 ≤ 1000) (hn : n ≤ 800000) (hA : Own w Bo A na ca us) (hBo : Bo ≤ w.heap.size) (ha0 : 0 < na) (ha : na ≤ 16) :
    Calls Try.prog 63 #[.pointer (some ⟨q, 0, none⟩), .slice A na ca] w fun e w' => ∃ (R' : Option Addr) (n' c' : Nat) (O : Option Addr) (l cO : Nat) (G' : List Ga) (os : List Int), e = .returned (.slice O l cO) ∧ Hid (cntTo (N0 + N1) G us (na - 1) = (G', os)) ∧ Own w' Bo O l cO os ∧ Mk w' 84 q B N0 N1 R' n' c' G' ∧ MkTo q w (blockOf R) w' (blockOf R') := by
  have T0 := MkTo.refl q w (blockOf R)
  have HL := Lib.hid hM.len
  obtain ⟨g, rfl⟩ := hA.spot ha0
  have hcap := hA.capLe
  have S0 : Own w Bo (some ⟨g, 0, none⟩) 1 ca (us.take 1) := by
    refine ⟨by rw [List.length_take, hA.1]; omega, by rw [vals_length, List.length_take, hA.1]; omega, ?_⟩
    rcases hA.2.2 with ⟨hv, _⟩ | ⟨g2, cap, cur, e, hb, hg, h5, h6, h7, h8⟩
    · cases hv
    · injection e with e1 e2 e3
      refine .inr ⟨g2, cap, cur, by rw [e1, e3], hb, hg, by omega, h6, h7, ?_⟩
      have : vals (us.take 1) = (vals us).take 1 := by simp [vals]
      rw [this, ← h8, List.take_take]
      congr 1
      omega
  have e0 : us.take 1 = [us.getD 0 0] := by
    have hl := hA.1
    cases us with
    | nil => simp at hl; omega
    | cons x xs => simp
  rw [e0] at S0
  have key0 : Hid (cntTo (N0 + N1) G us 0 = (G, [us.getD 0 0])) := rfl
  have i1 : (1 : Int) ≤ (na : Int) := by omega
  have i1n : 1 ≤ na := ha0
  have i2 : (1 : Int) ≤ (ca : Int) := by omega
  have i2n : 1 ≤ ca := by omega
  have HA := Lib.hid hA
  have HCAP := Lib.hid hcap
  clear e0
  go_enter Try.func63, Try.ntmps63
  rcases (by omega : ca = 1 ∨ 1 < ca) with rfl | hca
  · go_wp2_with fail
    go_loopw [5, 16] (fun sv iv wr => ∃ (k : Nat) (R' : Option Addr) (n' c' : Nat) (S : Option Addr) (l cS : Nat) (Gk : List Ga) (sk : List Int), k + 1 ≤ na ∧ iv = .int .i64 k ∧ sv = .slice S l cS ∧ Hid (cntTo (N0 + N1) G us k = (Gk, sk)) ∧ Mk wr 84 q B N0 N1 R' n' c' Gk ∧ Own wr Bo S l cS sk ∧ MkTo q w (blockOf R) wr (blockOf R')) (fun _ iv _ => na - 1 - (intOf iv).toNat)
    case atStart => exact ⟨0, R, n, c, _, _, _, G, _, by omega, rfl, rfl, key0, hM, S0, T0⟩
    case round =>
      obtain ⟨k, R2, n2, c2, S, l, cS, Gk, sk, hk, rfl, rfl, HS, M2, o2, T2⟩ := hrel
      have hk2 : k + 1 = na := by have := HCAP.out; omega
      have hkl : ¬ k + 1 < na := by omega
      go_wp2_with fail
      go_ret
      refine ⟨R2, n2, c2, S, l, cS, Gk, sk, rfl, ?_, o2, M2, T2⟩
      show _ = _
      rw [← hk2]
      exact HS.out
  · go_wp2_with fail
    go_loopw [5, 16] (fun sv iv wr => ∃ (k : Nat) (R' : Option Addr) (n' c' : Nat) (S : Option Addr) (l cS : Nat) (Gk : List Ga) (sk : List Int), k + 1 ≤ na ∧ iv = .int .i64 k ∧ sv = .slice S l cS ∧ Hid (cntTo (N0 + N1) G us k = (Gk, sk)) ∧ Mk wr 84 q B N0 N1 R' n' c' Gk ∧ Own wr Bo S l cS sk ∧ MkTo q w (blockOf R) wr (blockOf R')) (fun _ iv _ => na - 1 - (intOf iv).toNat)
    case atStart => exact ⟨0, R, n, c, _, _, _, G, _, by omega, rfl, rfl, key0, hM, S0, T0⟩
    case round =>
      obtain ⟨k, R2, n2, c2, S, l, cS, Gk, sk, hk, rfl, rfl, HS, M2, o2, T2⟩ := hrel
      by_cases hlt : k + 1 < na
      · have hl : l ≤ k + 1 := by have h3 := cnt_len (N0 + N1) G us k; rw [HS.out] at h3; have := o2.1; simp only at h3; omega
        have hg : n2 ≤ n + 34 * k := by have h3 := cnt_gates (N0 + N1) G us k (by omega); rw [HS.out] at h3; have := M2.len; have := HL.out; simp only at h3; omega
        have cb := (HA.out.mk T2 hM).cellR (k := k + 1) hlt
        obtain ⟨x, hx⟩ : ∃ x, us.getD (k + 1) 0 = x := ⟨_, rfl⟩
        rw [hx] at cb
        have cb2 : wr.cell? ⟨g, 1 + k, none⟩ = some (.int .i64 x) := by rw [Nat.add_comm]; exact cb
        have HX := Lib.hid hx
        have j0 : (0 : Int) ≤ (k : Int) := by omega
        have j1 : (k : Int) < (na : Int) - 1 := by omega
        have j2 : k < na - 1 := by omega
        have j3 : decide (k < na - 1) = true := decide_eq_true j2
        have sz2 := T2.size
        have hsl : sk.length = l := o2.1
        have HC := Lib.hid (gmAddBit_any S l cS sk x q B N0 N1 R2 n2 c2 Gk wr M2 h0 h1 (by omega) o2.hasI (by omega))
        have HSL := Lib.hid hsl
        clear hx cb o2 M2 hsl
        go_wp2_with fail
        refine (HC.out).mono ?_
        rintro e w3 ⟨R3, n3, c3, O, G3, os, y, rfl, h2, o3, M3, t3⟩
        have T3 := T2.trans t3
        have sz3 := t3.size
        have l16 : l ≤ 16 := by omega
        have hp := pow16 (k := l) l16
        obtain ⟨pw, hpw⟩ : ∃ pw : Nat, 2 ^ l = pw := ⟨_, rfl⟩
        have hpi : (2 : Int) ^ l = (pw : Int) := by rw [← hpw]; push_cast; rfl
        by_cases hle : (2 : Int) ^ l ≤ (k : Int) + 2
        · have key : Hid (cntTo (N0 + N1) G us (k + 1) = (G3, os ++ [y])) := by
            show _ = _
            rw [cntTo_succ, HS.out, HX.out, cntStep]
            simp only
            rw [HSL.out, h2.out]
            simp only
            rw [if_pos (by rw [hpw]; omega)]
          clear hpw hpi HS HC t3 h2 T2
          go_wp2_with (at_builtin; refine appendIntG w3 rfl (.tmp 35) (.tmp 37) rfl y wr.heap.size (.slice O l l) l os rfl rfl o3.2 (by omega) sz3 ?_; intro v9 w9 own9 b9 g9)
          rw [ownBlockOf] at g9
          obtain ⟨X9, cX9, rfl, O9⟩ := ownOf own9
          have M9 := M3.rowed o3 g9
          have T9 := T3.grown g9 (fun x e => Nat.le_trans sz2 (o3.rowGe x e))
          have O10 := O9.mono (Nat.le_trans hBo sz2)
          clear own9 b9 g9 o3 M3 T3 O9
          go_wp2_with fail
          go_roundw
          case rel => first | exact ⟨k + 1, R3, n3, c3, X9, l + 1, cX9, G3, _, by omega, by go_num, rfl, key, M9, O10, T9⟩ | ((repeat apply Exists.intro); exact ⟨⟨k + 1, R3, n3, c3, X9, l + 1, cX9, G3, _, by omega, by go_num, rfl, key, M9, O10, T9⟩, rfl⟩)
          case measure => simp [intOf]; omega
        · have key : Hid (cntTo (N0 + N1) G us (k + 1) = (G3, os)) := by
            show _ = _
            rw [cntTo_succ, HS.out, HX.out, cntStep]
            simp only
            rw [HSL.out, h2.out]
            simp only
            rw [if_neg (by rw [hpw]; omega)]
          have O10 := o3.mono (Nat.le_trans hBo sz2)
          clear hpw hpi HS HC t3 h2 T2 o3
          go_wp2_with fail
          go_roundw
          case rel => first | exact ⟨k + 1, R3, n3, c3, O, l, l, G3, _, by omega, by go_num, rfl, key, M3, O10, T3⟩ | ((repeat apply Exists.intro); exact ⟨⟨k + 1, R3, n3, c3, O, l, l, G3, _, by omega, by go_num, rfl, key, M3, O10, T3⟩, rfl⟩)
          case measure => simp [intOf]; omega
      · have hk2 : k + 1 = na := by omega
        go_wp2_with fail
        go_ret
        refine ⟨R2, n2, c2, S, l, cS, Gk, sk, rfl, ?_, o2, M2, T2⟩
        show _ = _
        rw [← hk2]
        exact HS.out

set_option maxHeartbeats 1000000 in
theorem countLit_any (X : Value) (q B N0 N1 : Nat) (R : Option Addr) (n c : Nat) (G : List Ga) (A : Option Addr) (na ca : Nat) (us : List Int) (Bo : Nat) (w : World) (hM : Mk w 84 q B N0 N1 R n c G) (h0 : N0 ≤ 1000) (h1 : N1 ≤ 1000) (hn : n ≤ 800000) (hA : Own w Bo A na ca us) (hBo : Bo ≤ w.heap.size) (ha0 : 0 < na) (ha : na ≤ 16) :
    Calls Try.prog 62 #[.pointer (some ⟨q, 0, none⟩), .slice A na ca, X] w fun e w' => ∃ (R' : Option Addr) (n' c' : Nat) (O : Option Addr) (l cO : Nat) (G' : List Ga) (os : List Int), e = .returned (.slice O l cO) ∧ Hid (cntTo (N0 + N1) G us (na - 1) = (G', os)) ∧ Own w' Bo O l cO os ∧ Mk w' 84 q B N0 N1 R' n' c' G' ∧ MkTo q w (blockOf R) w' (blockOf R') := by
  have HC := Lib.hid (gmCount_any q B N0 N1 R n c G A na ca us Bo w hM h0 h1 hn hA hBo ha0 ha)
  clear hM hA
  go_enter Try.func62, Try.ntmps62
  go_wp2_with fail
  refine (HC.out).mono ?_
  rintro e w2 ⟨R', n', c', O, l, cO, G', os, rfl, h2, h3, h4, h5⟩
  go_wp2_with fail
  go_ret
  exact ⟨R', n', c', O, l, cO, G', os, rfl, h2, h3, h4, h5⟩

set_option maxRecDepth 100000 in
set_option maxHeartbeats 2000000 in
theorem gadgetCount_any (m : Nat) (m1 : 1 ≤ m) (m16 : m ≤ 16) (w : World) :
    Calls Try.prog 53 #[.int .i64 (m : Int), .int .i64 0, .func (.func 62) #[] #[]] w fun e w' => ∃ u, e = .returned u ∧ OwnC w' w.heap.size u (countC m) ∧ Below w.heap.size w w' := by
  have r1 := Blk.new w #[.int .i64 0, .int .i64 0, .slice none 0 0, .slice none 0 0] 25
  have b1 := belowNew w (.cells #[.int .i64 0, .int .i64 0, .slice none 0 0, .slice none 0 0] 25)
  obtain ⟨w1, hw1⟩ : ∃ W, W = w.alloc (.cells #[.int .i64 0, .int .i64 0, .slice none 0 0, .slice none 0 0] 25) := ⟨_, rfl⟩
  have s1 : w1.heap.size = w.heap.size + 1 := by rw [hw1]; simp
  rw [← hw1] at r1 b1
  have y3 := Blk.new w1 #[.int .i64 (m : Int), .int .i64 0, .slice none 0 0, .slice none 0 0] 84
  have b3 := belowNew w1 (.cells #[.int .i64 (m : Int), .int .i64 0, .slice none 0 0, .slice none 0 0] 84)
  obtain ⟨w3, hw3⟩ : ∃ W, W = w1.alloc (.cells #[.int .i64 (m : Int), .int .i64 0, .slice none 0 0, .slice none 0 0] 84) := ⟨_, rfl⟩
  rw [← hw3] at y3 b3
  have r3 := r1.below' b3
  have B3 := b1.trans (b3.mono b1.size)
  have l31 := b3.size
  have M3 : Mk w3 84 w1.heap.size (w.heap.size + 1) m 0 none 0 0 [] := ⟨y3, OwnG.nil_ _ _, by omega, (fun ad e => by cases e), by decide, by decide⟩
  have HS1 := Lib.hid s1
  have l1 : w.heap.size < w1.heap.size := by omega
  clear s1 r1 b1 b3 y3
  go_enter Try.func53, Try.ntmps53
  go_upto_region 1 with fail
  rw [← hw1]
  clear hw1
  go_upto_region 2 with fail
  rw [← hw3]
  clear hw3
  go_wp2_with fail
  refine call_eq (args1 := #[.int .i64 0, .int .i64 ((m : Nat) : Int)]) (w1 := w3) (by simp) rfl (Calls.mono (wiresFrom_any 0 m w3 (by omega) (by omega) (by omega)) ?_)
  rintro e w4 ⟨A, rfl, o4, b4⟩
  have r4 := r3.below' b4
  have B4 := B3.trans (b4.mono B3.size)
  have M4 := M3.below b4
  have ha4 := o4
  clear r3 B3 M3 o4
  go_wp2_with fail
  refine call_eq (args1 := #[.int .i64 (m : Int), .int .i64 ((0 : Nat) : Int)]) (w1 := w4) (by simp) rfl (Calls.mono (wiresFrom_any (m : Int) 0 w4 (by omega) (by omega) (by omega)) ?_)
  rintro e w5 ⟨A2, rfl, o5, b5⟩
  have r5 := r4.below' b5
  have B5 := B4.trans (b5.mono B4.size)
  have M5 := M4.below b5
  have ha5 := ha4.below b5
  have hb5 := o5
  clear r4 B4 M4 b4 b5 o5 ha4
  have l35 : w.heap.size + 1 ≤ w3.heap.size := by omega
  go_wp2_with fail
  refine (countLit_any _ w1.heap.size (w.heap.size + 1) m 0 none 0 0 [] A m m (rangeL 0 m) (w.heap.size + 1) w5 M5 (by omega) (by omega) (by omega) (ha5.mono l35) (by have := M5.lt; omega) (by omega) m16).mono ?_
  rintro e w6 ⟨R6, n6, c6, O6, p6, d6, G6, os6, rfl, hs6, o6, M6, t6⟩
  have r6 := r5.mk t6 M5 (by decide) (by decide)
  have B6 : Below w.heap.size w w6 := B5.trans (t6.below M5 (by omega))
  have hq : w1.heap.size ≠ w.heap.size := by omega
  have l6 : w.heap.size + 1 ≤ w5.heap.size := by have := M5.lt; omega
  obtain ⟨y7, o7, B7⟩ := M6.done o6 (Nat.le_succ _) B6
  have f7 := M6.blk.free 3
  have x7 := M6.blk.cell (i := 3) rfl
  have r7 := r6.other hq 3 (.slice O6 p6 d6)
  obtain ⟨w7, hw7⟩ : ∃ W, W = w6.setCell ⟨w1.heap.size, 3, none⟩ (.slice O6 p6 d6) := ⟨_, rfl⟩
  rw [← hw7] at y7 o7 B7 r7
  rw [show ((0 : Nat) : Int) = 0 from rfl] at y7 o7
  clear r5 B5 M5 ha5 hb5 t6 r6 M6 o6 B6
  go_upto_region 3 with fail
  rw [← hw7]
  clear hw7 f7 x7
  obtain ⟨k0, k1, k2, k3⟩ := y7.four
  obtain ⟨z0, z1, z2, z3⟩ := r7.four
  have f0 := r7.free 0
  have f1 := r7.free 1
  have f2 := r7.free 2
  have f3 := r7.free 3
  obtain ⟨y8, o8, B8⟩ := fourSet (a := .int .i64 (m : Int)) (b := .int .i64 0) (c := .slice R6 n6 c6) (d := .slice O6 p6 d6) o7 r7 (Nat.lt_succ_self _) B7 (Nat.le_refl _)
  obtain ⟨e0, e1, e2, e3⟩ := y8.four
  have HK : Hid ((⟨(m : Int), 0, G6, os6⟩ : Ci) = (countC m)) := by show _ = _; rw [countC, hs6.out]
  rw [HK.out] at o8
  have HY := Lib.hid (And.intro o8 B8)
  clear y7 o7 B7 r7 y8 o8 B8
  go_wp2_with fail
  refine bodyPost_ret (v := .agg #[.int .i64 (m : Int), .int .i64 0, .slice R6 n6 c6, .slice O6 p6 d6]) (by simp [results, Try.results53, go_sem, e0, e1, e2, e3]) rfl ⟨_, rfl, ?_, HY.out.2⟩
  exact HY.out.1.mono (Nat.le_succ _)

set_option maxRecDepth 100000 in
set_option maxHeartbeats 2000000 in
theorem impl_CountCircuit (x : Int) (RC : Ci) (rb : Bool) (w : World) (_hx : I64 x) (hm : m_CountCircuit x = (RC, rb)) :
    Calls Try.prog 32 #[.int .i64 x] w fun e w' => ∃ u, e = .returned (.tuple #[u, .bool rb]) ∧ OwnC w' w.heap.size u RC ∧ RC.gs.length ≤ 1048576 ∧ RC.os.length ≤ 1048576 ∧ Below w.heap.size w w' := by
  have HSz := Lib.hid (count_small hm)
  have r1 := Blk.new w #[.int .i64 0, .int .i64 0, .slice none 0 0, .slice none 0 0] 25
  have b1 := belowNew w (.cells #[.int .i64 0, .int .i64 0, .slice none 0 0, .slice none 0 0] 25)
  obtain ⟨w1, hw1⟩ : ∃ W, W = w.alloc (.cells #[.int .i64 0, .int .i64 0, .slice none 0 0, .slice none 0 0] 25) := ⟨_, rfl⟩
  have s1 : w1.heap.size = w.heap.size + 1 := by rw [hw1]; simp
  rw [← hw1] at r1 b1
  rcases count_cases x with ⟨hno, hv⟩ | ⟨m, rfl, m1, m16, hyes, hv⟩
  · rw [hv] at hm
    obtain ⟨rfl, rfl⟩ := Prod.mk.inj hm
    have hx : x < 1 ∨ ¬ x < 1 ∧ 16 < x := by simp [countB] at hno; omega
    clear hm hv s1 hno
    have f0 := r1.free 0
    have f1 := r1.free 1
    have f2 := r1.free 2
    have f3 := r1.free 3
    obtain ⟨z0, z1, z2, z3⟩ := r1.four
    obtain ⟨y7, o7, B7⟩ := fourSet (a := .int .i64 0) (b := .int .i64 0) (c := .slice none 0 0) (d := .slice none 0 0) (zeroOwnZ w1 (w.heap.size + 1)) r1 (Nat.lt_succ_self _) b1 (by omega)
    obtain ⟨e0, e1, e2, e3⟩ := y7.four
    have HY := Lib.hid (And.intro o7 B7)
    clear r1 b1 y7 o7 B7
    rcases hx with hx | ⟨hx, hx2⟩
    all_goals
      go_enter Try.func32, Try.ntmps32
      go_upto_region 1 with fail
      rw [← hw1]
      clear hw1
      go_wp2_with fail
      refine bodyPost_ret (v := .tuple #[.agg #[.int .i64 0, .int .i64 0, .slice none 0 0, .slice none 0 0], .bool false]) (by simp [results, Try.results32, go_sem, e0, e1, e2, e3]) rfl ⟨_, rfl, HY.out.1.mono (by omega), HSz.out.1, HSz.out.2, HY.out.2⟩
  · rw [hv] at hm
    obtain ⟨rfl, rfl⟩ := Prod.mk.inj hm
    have HC := Lib.hid (gadgetCount_any m m1 m16 w1)
    have HS1 := Lib.hid s1
    have c1 : ¬ (m : Int) < 1 := by omega
    have c2 : ¬ 16 < (m : Int) := by omega
    have l1 : w.heap.size < w1.heap.size := by omega
    clear hm hv s1 hyes
    go_enter Try.func32, Try.ntmps32
    go_upto_region 1 with fail
    rw [← hw1]
    clear hw1
    go_wp2_with fail
    refine (HC.out).mono ?_
    rintro e w6 ⟨u, rfl, o6, b6⟩
    have r6 := r1.below' b6
    have B6 := b1.trans (b6.mono b1.size)
    clear r1 b1 b6
    obtain ⟨Gx, nx, cx, Ox, px, dx, rfl, hG, hO⟩ := id o6
    obtain ⟨z0, z1, z2, z3⟩ := r6.four
    have f0 := r6.free 0
    have f1 := r6.free 1
    have f2 := r6.free 2
    have f3 := r6.free 3
    have lt6 : w.heap.size < w1.heap.size := l1
    obtain ⟨y7, o7, B7⟩ := fourSet (a := .int .i64 (countC m).in0) (b := .int .i64 (countC m).in1) (c := .slice Gx nx cx) (d := .slice Ox px dx) o6 r6 lt6 B6 (by omega)
    obtain ⟨e0, e1, e2, e3⟩ := y7.four
    have HY := Lib.hid (And.intro o7 B7)
    clear r6 o6 B6 hG hO y7 o7 B7
    go_wp2_with fail
    refine bodyPost_ret (v := .tuple #[.agg #[.int .i64 (countC m).in0, .int .i64 (countC m).in1, .slice Gx nx cx, .slice Ox px dx], .bool true]) (by simp [results, Try.results32, go_sem, e0, e1, e2, e3]) rfl ⟨_, rfl, HY.out.1.mono (by omega), HSz.out.1, HSz.out.2, HY.out.2⟩

end Go.Proofs.Ytnmjnffnelkciaa
