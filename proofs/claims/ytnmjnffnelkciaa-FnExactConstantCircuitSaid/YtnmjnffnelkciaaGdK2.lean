/- Constant numbers: the program's side. For numbers of at most 16 bits. -/
import Derived.Test.YtnmjnffnelkciaaGdK1
import Derived.Test.YtnmjnffnelkciaaGdI4
namespace Go.Proofs.Ytnmjnffnelkciaa
open Go Go.RowKit
set_option maxRecDepth 100000

set_option maxHeartbeats 400000 in
theorem ccClosure_any (b : Nat) (z y : Int) (i : Int) (j : Nat) (W : World) (h0 : W.cell? ⟨b, 0, none⟩ = some (.int .i64 z)) (h1 : W.cell? ⟨b, 1, none⟩ = some (.int .i64 y)) (hj : j = 0 ∨ j = 1) :
    Calls Try.prog 108 #[.int .i64 i, .int .i64 (j : Int), .pointer (some ⟨b, 0, none⟩)] W fun e w' => e = .returned (.int .i64 (if j = 1 then y else z)) ∧ W = w' := by
  rcases hj with rfl | rfl
  · go_enter Try.func108, Try.ntmps108
    go_wp2
    go_ret
    exact ⟨rfl, rfl⟩
  · go_enter Try.func108, Try.ntmps108
    go_wp2
    go_ret
    exact ⟨rfl, rfl⟩

set_option maxHeartbeats 2000000 in
theorem changedConst_any (A : Option Addr) (n c : Nat) (x : Int) (b : Nat) (p : Int) (w : World) (h0 : w.cell? ⟨b, 0, none⟩ = some (.int .i64 (p + 1))) (h1 : w.cell? ⟨b, 1, none⟩ = some (.int .i64 p)) (hb : b < w.heap.size) (h : Has w A n (mapTo (fun j => x / 2 ^ j % 2) n)) (hn : n ≤ 1000) :
    Calls Try.prog 107 #[.slice A n c, .func (.func 108) #[] #[.pointer (some ⟨b, 0, none⟩)]] w
      fun e w' => ∃ R, e = .returned (.slice R n n) ∧ Own w' w.heap.size R n n (constL p x n) ∧ Below w.heap.size w w' := by
  go_enter Try.func107, Try.ntmps107
  go_wp2_with (at_make; refine makeInts _ rfl _ rfl n rfl (by omega) ?_; intro w1 hf hb1)
  have hf := hf (vals (constL p x n))
  go_loopw [13] (fun i wr => ∃ j : Nat, j ≤ n ∧ i = .int .i64 j ∧ Filled wr w.heap.size 3 w.heap.size n (vals (constL p x n)) (fun q => q < j) ∧ Below w.heap.size w wr) (fun i _ => n - (intOf i).toNat)
  case atStart => exact ⟨0, Nat.zero_le _, rfl, hf, hb1⟩
  case round =>
    obtain ⟨j, hj, rfl, hfj, hbj⟩ := hrel
    by_cases hlt : j < n
    · obtain ⟨ad, z, rfl, hcz, HZ⟩ := (h.below hbj).elem hlt
      have hz : z = x / 2 ^ j % 2 := by rw [HZ.out, mapTo_at _ hlt]
      obtain ⟨k, rfl⟩ : ∃ k : Nat, z = (k : Int) := ⟨z.toNat, by omega⟩
      obtain ⟨u, hu⟩ := hfj.cell hlt
      have hfr := hfj.free j
      have HC := Lib.hid (ccClosure_any b (p + 1) p (j : Int) k wr (cellKept hbj hb h0) (cellKept hbj hb h1) (by omega))
      obtain ⟨y, hy⟩ : ∃ y : Int, (if k = 1 then p else p + 1) = y := ⟨_, rfl⟩
      have HY : Hid ((vals (constL p x n))[j]? = some (.int .i64 y)) := by
        show _ = _
        rw [constL, mapTo_vals _ hlt, ← hy, ← hz]
        by_cases hk : k = 1
        · rw [if_pos (by omega), if_pos hk]
        · rw [if_neg (by omega), if_neg hk]
      rw [hy] at HC
      clear hz hy
      go_wp2_with fail
      refine (HC.out).mono ?_
      rintro e w2 ⟨rfl, rfl⟩
      go_wp2
      go_roundw
      case rel =>
        refine ⟨j + 1, by omega, by go_num, ?_, hbj.setCell (Nat.le_refl _) _⟩
        exact hfj.put hlt HY.out (by intro q _ hq; omega)
      case measure => simp [intOf]; omega
    · go_wp2
      go_ret
      exact ⟨some ⟨w.heap.size, 0, none⟩, rfl, ⟨mapTo_length _ _, hfj.full (by rw [vals_length, constL_length]) (by intro q hq; omega)⟩, hbj⟩

set_option maxRecDepth 100000 in
set_option maxHeartbeats 2000000 in
theorem gmConst_any (x : Int) (m : Nat) (hx : I64 x) (hwd : wordB x (m : Int) = true) (hm : m ≤ 16) (q B N0 N1 : Nat) (R : Option Addr) (n c : Nat) (G : List Ga) (w : World) (hM : Mk w 84 q B N0 N1 R n c G) (h0 : N0 ≤ 1000) (h1 : N1 ≤ 1000) (hn : n ≤ 900000) :
    Calls Try.prog 68 #[.pointer (some ⟨q, 0, none⟩), .int .i64 x, .int .i64 (m : Int)] w fun e w' => ∃ (R' : Option Addr) (c' : Nat) (O : Option Addr), e = .returned (.slice O m m) ∧ Own w' w.heap.size O m m (constL ((N0 + N1 + n : Nat) : Int) x m) ∧ Mk w' 84 q B N0 N1 R' (n + 2) c' (G ++ [(3, 0, 0), (2, ((N0 + N1 + n : Nat) : Int), 0)]) ∧ MkTo q w (blockOf R) w' (blockOf R') := by
  have T1 := MkTo.refl q w (blockOf R)
  obtain ⟨w1, hw1⟩ : ∃ w1, w1 = w := ⟨_, rfl⟩
  have M1 : Mk w1 84 q B N0 N1 R n c G := by rw [hw1]; exact hM
  have T1 : MkTo q w (blockOf R) w1 (blockOf R) := by rw [hw1]; exact T1
  have hbo : m_BitsOf x (m : Int) = (mapTo (fun j => x / 2 ^ j % 2) m, true) := by rw [bitsOf_eq, if_pos hwd]; rfl
  have HB := Lib.hid hbo
  have i64m : I64 (m : Int) := by unfold I64; omega
  clear hM hbo hwd
  go_enter Try.func68, Try.ntmps68
  go_wp2_with fail
  rw [← hw1]
  clear hw1
  refine (gmOne_any  q B N0 N1 _ _ _ _ _ M1 h0 h1 (by omega)).mono ?_
  rintro e w2 ⟨R2, c2, z2, rfl, hz2, M2, t2⟩
  have T2 := T1.trans t2
  clear t2 T1 M1 
  go_wp2_with fail
  refine (gmNot_any z2 q B N0 N1 _ _ _ _ _ M2 h0 h1 (by omega)).mono ?_
  rintro e w3 ⟨R3, c3, z3, rfl, hz3, M3, t3⟩
  have T3 := T2.trans t3
  clear t3 T2 M2 
  have y4 := Blk.new w3 #[.int .i64 z3, .int .i64 z2] 91
  have b4 := belowNew w3 (.cells #[.int .i64 z3, .int .i64 z2] 91)
  obtain ⟨w4, hw4⟩ : ∃ W, W = w3.alloc (.cells #[.int .i64 z3, .int .i64 z2] 91) := ⟨_, rfl⟩
  rw [← hw4] at y4 b4
  have M4 := M3.below b4
  have T4 := T3.next b4
  clear M3 T3 b4
  go_upto_region 3 with fail
  rw [← hw4]
  clear hw4
  go_wp2_with fail
  refine (impl_BitsOf x (m : Int) _ true w4 hx i64m HB.out).mono ?_
  rintro e w5 ⟨S, mS, cS, rfl, o5, _, b5⟩
  obtain rfl : mS = m := by have := o5.1; rw [mapTo_length] at this; exact this.symm
  have y5 := y4.below' b5
  have M5 := M4.below b5
  have T5 := T4.next b5
  have hz : z3 = z2 + 1 := by rw [hz3.out, hz2.out]; push_cast; omega
  rw [hz] at y5
  have HC := Lib.hid (changedConst_any S mS cS x w3.heap.size z2 w5 (y5.cell (i := 0) rfl) (y5.cell (i := 1) rfl) y5.lt o5.has (by omega))
  have sz := T5.size
  have HM5 := Lib.hid M5
  have HT5 := Lib.hid T5
  clear y4 y5 M4 T4 M5 T5 b5 o5 hz
  go_wp2_with fail
  refine (HC.out).mono ?_
  rintro e w6 ⟨O6, rfl, o6, b6⟩
  go_wp2_with fail
  go_ret
  refine ⟨R3, c3, O6, rfl, ?_, ?_, HT5.out.next b6⟩
  · rw [← hz2.out]; exact o6.mono sz
  · rw [← hz2.out]; simpa using HM5.out.below b6

set_option maxHeartbeats 1000000 in
theorem constLit_any (x : Int) (m bn bw : Nat) (hx : I64 x) (hwd : wordB x (m : Int) = true) (hm : m ≤ 16) (A A2 : Value) (q B N0 N1 : Nat) (R : Option Addr) (n c : Nat) (G : List Ga) (w : World) (hM : Mk w 84 q B N0 N1 R n c G) (h0 : N0 ≤ 1000) (h1 : N1 ≤ 1000) (hn : n ≤ 900000) (hbn : Blk w bn #[.int .i64 x] 3) (hbw : Blk w bw #[.int .i64 (m : Int)] 3) :
    Calls Try.prog 67 #[.pointer (some ⟨q, 0, none⟩), A, A2, .pointer (some ⟨bn, 0, none⟩), .pointer (some ⟨bw, 0, none⟩)] w fun e w' => ∃ (R' : Option Addr) (c' : Nat) (O : Option Addr), e = .returned (.slice O m m) ∧ Own w' w.heap.size O m m (constL ((N0 + N1 + n : Nat) : Int) x m) ∧ Mk w' 84 q B N0 N1 R' (n + 2) c' (G ++ [(3, 0, 0), (2, ((N0 + N1 + n : Nat) : Int), 0)]) ∧ MkTo q w (blockOf R) w' (blockOf R') := by
  have HC := Lib.hid (gmConst_any x m hx hwd hm q B N0 N1 R n c G w hM h0 h1 hn)
  have cn := hbn.cell (i := 0) rfl
  have cw := hbw.cell (i := 0) rfl
  clear hM hbn hbw hwd
  go_enter Try.func67, Try.ntmps67
  go_wp2_with fail
  refine (HC.out).mono ?_
  rintro e w2 ⟨R', c', O, rfl, h2, h3, h4⟩
  go_wp2_with fail
  go_ret
  exact ⟨R', c', O, rfl, h2, h3, h4⟩

set_option maxRecDepth 100000 in
set_option maxHeartbeats 2000000 in
theorem gadgetConst_any (x : Int) (m bn bw : Nat) (hx : I64 x) (hwd : wordB x (m : Int) = true) (m16 : m ≤ 16) (w : World) (bn0 : Blk w bn #[.int .i64 x] 3) (bw0 : Blk w bw #[.int .i64 (m : Int)] 3) :
    Calls Try.prog 53 #[.int .i64 0, .int .i64 0, .func (.func 67) #[] #[.pointer (some ⟨bn, 0, none⟩), .pointer (some ⟨bw, 0, none⟩)]] w fun e w' => ∃ u, e = .returned u ∧ OwnC w' w.heap.size u (constC x m) ∧ Below w.heap.size w w' := by
  have HWD := Lib.hid hwd
  clear hwd
  have r1 := Blk.new w #[.int .i64 0, .int .i64 0, .slice none 0 0, .slice none 0 0] 25
  have b1 := belowNew w (.cells #[.int .i64 0, .int .i64 0, .slice none 0 0, .slice none 0 0] 25)
  obtain ⟨w1, hw1⟩ : ∃ W, W = w.alloc (.cells #[.int .i64 0, .int .i64 0, .slice none 0 0, .slice none 0 0] 25) := ⟨_, rfl⟩
  have s1 : w1.heap.size = w.heap.size + 1 := by rw [hw1]; simp
  rw [← hw1] at r1 b1
  have bn1 := bn0.below' b1
  have bw1 := bw0.below' b1
  have y3 := Blk.new w1 #[.int .i64 0, .int .i64 0, .slice none 0 0, .slice none 0 0] 84
  have b3 := belowNew w1 (.cells #[.int .i64 0, .int .i64 0, .slice none 0 0, .slice none 0 0] 84)
  obtain ⟨w3, hw3⟩ : ∃ W, W = w1.alloc (.cells #[.int .i64 0, .int .i64 0, .slice none 0 0, .slice none 0 0] 84) := ⟨_, rfl⟩
  rw [← hw3] at y3 b3
  have bn3 := bn1.below' b3
  have bw3 := bw1.below' b3
  have r3 := r1.below' b3
  have B3 := b1.trans (b3.mono b1.size)
  have M3 : Mk w3 84 w1.heap.size (w.heap.size + 1) 0 0 none 0 0 [] := ⟨y3, OwnG.nil_ _ _, by omega, (fun ad e => by cases e), by decide, by decide⟩
  have HS1 := Lib.hid s1
  have l1 : w.heap.size < w1.heap.size := by omega
  clear s1 r1 b1 b3 y3
  go_enter Try.func53, Try.ntmps53
  go_upto_region 1 with fail
  rw [← hw1]
  clear hw1
  go_upto_region 2 with fail
  rw [← hw3]
  clear hw3
  go_wp2_with fail
  refine call_eq (args1 := #[.int .i64 0, .int .i64 ((0 : Nat) : Int)]) (w1 := w3) (by simp) rfl (Calls.mono (wiresFrom_any 0 0 w3 (by omega) (by omega) (by omega)) ?_)
  rintro e w4 ⟨A, rfl, o4, b4⟩
  have r4 := r3.below' b4
  have B4 := B3.trans (b4.mono B3.size)
  have M4 := M3.below b4
  have bn4 := bn3.below' b4
  have bw4 := bw3.below' b4
  have ha4 := o4
  clear r3 B3 M3 o4
  go_wp2_with fail
  refine call_eq (args1 := #[.int .i64 0, .int .i64 ((0 : Nat) : Int)]) (w1 := w4) (by simp) rfl (Calls.mono (wiresFrom_any 0 0 w4 (by omega) (by omega) (by omega)) ?_)
  rintro e w5 ⟨A2, rfl, o5, b5⟩
  have r5 := r4.below' b5
  have B5 := B4.trans (b5.mono B4.size)
  have M5 := M4.below b5
  have bn5 := bn4.below' b5
  have bw5 := bw4.below' b5
  have ha5 := ha4.below b5
  have hb5 := o5
  clear r4 B4 M4 b4 b5 o5 ha4
  go_wp2_with fail
  refine (constLit_any x m bn bw hx HWD.out m16 _ _ w1.heap.size (w.heap.size + 1) 0 0 none 0 0 [] w5 M5 (by omega) (by omega) (by omega) bn5 bw5).mono ?_
  rintro e w6 ⟨R6, c6, O6, rfl, o6, M6, t6⟩
  have r6 := r5.mk t6 M5 (by decide) (by decide)
  have B6 : Below w.heap.size w w6 := B5.trans (t6.below M5 (by omega))
  have hq : w1.heap.size ≠ w.heap.size := by omega
  have l6 : w.heap.size + 1 ≤ w5.heap.size := by have := M5.lt; omega
  obtain ⟨y7, o7, B7⟩ := M6.done (o6.mono l6) (Nat.le_succ _) B6
  have f7 := M6.blk.free 3
  have x7 := M6.blk.cell (i := 3) rfl
  have r7 := r6.other hq 3 (.slice O6 m m)
  obtain ⟨w7, hw7⟩ : ∃ W, W = w6.setCell ⟨w1.heap.size, 3, none⟩ (.slice O6 m m) := ⟨_, rfl⟩
  rw [← hw7] at y7 o7 B7 r7
  rw [show ((0 : Nat) : Int) = 0 from rfl] at y7 o7
  clear r5 B5 M5 ha5 hb5 t6 r6 M6 o6 B6 bn0 bn1 bn3 bn4 bn5 bw0 bw1 bw3 bw4 bw5
  go_upto_region 3 with fail
  rw [← hw7]
  clear hw7 f7 x7
  obtain ⟨k0, k1, k2, k3⟩ := y7.four
  obtain ⟨z0, z1, z2, z3⟩ := r7.four
  have f0 := r7.free 0
  have f1 := r7.free 1
  have f2 := r7.free 2
  have f3 := r7.free 3
  obtain ⟨y8, o8, B8⟩ := fourSet (a := .int .i64 0) (b := .int .i64 0) (c := .slice R6 (0 + 2) c6) (d := .slice O6 m m) o7 r7 (Nat.lt_succ_self _) B7 (Nat.le_refl _)
  obtain ⟨e0, e1, e2, e3⟩ := y8.four
  have HK : Hid ((⟨0, 0, [] ++ [(3, 0, 0), (2, 0, 0)], constL 0 x m⟩ : Ci) = (constC x m)) := by rfl
  rw [HK.out] at o8
  have HY := Lib.hid (And.intro o8 B8)
  clear y7 o7 B7 r7 y8 o8 B8
  go_wp2_with fail
  refine bodyPost_ret (v := .agg #[.int .i64 0, .int .i64 0, .slice R6 (0 + 2) c6, .slice O6 m m]) (by simp [results, Try.results53, go_sem, e0, e1, e2, e3]) rfl ⟨_, rfl, ?_, HY.out.2⟩
  exact HY.out.1.mono (Nat.le_succ _)

set_option maxRecDepth 100000 in
set_option maxHeartbeats 2000000 in
theorem impl_ConstantCircuit (x y : Int) (RC : Ci) (rb : Bool) (w : World) (hx : I64 x) (hy : I64 y) (hm : m_ConstantCircuit x y = (RC, rb)) :
    Calls Try.prog 34 #[.int .i64 x, .int .i64 y] w fun e w' => ∃ u, e = .returned (.tuple #[u, .bool rb]) ∧ OwnC w' w.heap.size u RC ∧ RC.gs.length ≤ 1048576 ∧ RC.os.length ≤ 1048576 ∧ Below w.heap.size w w' := by
  have HSz := Lib.hid (const_small hm)
  have y1 := Blk.new w #[.int .i64 x] 3
  have b1 := belowNew w (.cells #[.int .i64 x] 3)
  obtain ⟨wa, hwa⟩ : ∃ W, W = w.alloc (.cells #[.int .i64 x] 3) := ⟨_, rfl⟩
  have sa : wa.heap.size = w.heap.size + 1 := by rw [hwa]; simp
  rw [← hwa] at y1 b1
  have z1 := Blk.newAt (k := w.heap.size + 1) wa #[.int .i64 y] 3 sa.symm
  have b2 := belowNew wa (.cells #[.int .i64 y] 3)
  obtain ⟨wb, hwb⟩ : ∃ W, W = wa.alloc (.cells #[.int .i64 y] 3) := ⟨_, rfl⟩
  have sb : wb.heap.size = w.heap.size + 1 + 1 := by rw [hwb]; simp; omega
  rw [← hwb] at z1 b2
  have r1 := Blk.newAt (k := w.heap.size + 1 + 1) wb #[.int .i64 0, .int .i64 0, .slice none 0 0, .slice none 0 0] 25 sb.symm
  have b3 := belowNew wb (.cells #[.int .i64 0, .int .i64 0, .slice none 0 0, .slice none 0 0] 25)
  obtain ⟨w1, hw1⟩ : ∃ W, W = wb.alloc (.cells #[.int .i64 0, .int .i64 0, .slice none 0 0, .slice none 0 0] 25) := ⟨_, rfl⟩
  have s1 : w1.heap.size = w.heap.size + 1 + 1 + 1 := by rw [hw1]; simp; omega
  rw [← hw1] at r1 b3
  have y3 := (y1.below' b2).below' b3
  have z3 := z1.below' b3
  have B1 := (b1.trans (b2.mono b1.size))
  have B3 := B1.trans (b3.mono B1.size)
  have cx := y3.cell (i := 0) rfl
  have cy := z3.cell (i := 0) rfl
  have HS1 := Lib.hid s1
  have l1 : w.heap.size + 1 + 1 < w1.heap.size := by omega
  clear s1 sa sb y1 z1 b1 b2 b3 B1
  obtain ⟨rs1, rb1, h1⟩ : ∃ rs1 rb1, m_BitsOf x y = (rs1, rb1) := ⟨_, _, rfl⟩
  have hrb : rb1 = wordB x y := by rw [bitsOf_eq] at h1; split at h1 <;> (injection h1 with _ h1; rw [← h1]; first | exact (by assumption : wordB x y = true).symm | simp_all)
  have HB := Lib.hid (impl_BitsOf x y rs1 rb1 w1 hx hy h1)
  rcases const_cases x y with ⟨hno, hv⟩ | ⟨m, rfl, m1, m16, x0, x1, hwd, hv⟩
  · rw [hv] at hm
    obtain ⟨rfl, rfl⟩ := Prod.mk.inj hm
    clear hm hv
    have hx2 : rb1 = false ∨ rb1 = true ∧ y = 0 := by
      rw [hrb]
      cases hw : wordB x y with
      | false => exact .inl rfl
      | true => exact .inr ⟨rfl, by have := wordB_yes hw; simp [constB, hw] at hno; omega⟩
    clear hrb h1 hno
    go_enter Try.func34, Try.ntmps34
    go_upto_region 1 with fail
    rw [← hwa, ← hwb, ← hw1]
    clear hwa hwb hw1
    go_wp2_with fail
    refine (HB.out).mono ?_
    rintro e w2 ⟨S, mS, cS, rfl, o2, _, b2⟩
    have r2 := r1.below' b2
    have B2 := B3.trans (b2.mono B3.size)
    have z2' := (z3.below' b2).cell (i := 0) rfl
    clear r1 B3 o2 b2 HB y3 z3 cx cy
    have f0 := r2.free 0
    have f1 := r2.free 1
    have f2 := r2.free 2
    have f3 := r2.free 3
    obtain ⟨z0, z1, z2, z3⟩ := r2.four
    obtain ⟨y7, o7, B7⟩ := fourSet (a := .int .i64 0) (b := .int .i64 0) (c := .slice none 0 0) (d := .slice none 0 0) (zeroOwnZ w2 (w.heap.size + 1 + 1 + 1)) r2 (Nat.lt_succ_self _) B2 (by omega)
    obtain ⟨e0, e1, e2, e3⟩ := y7.four
    have HY := Lib.hid (And.intro o7 B7)
    clear r2 B2 y7 o7 B7
    rcases hx2 with rfl | ⟨rfl, rfl⟩
    · go_wp2_with fail
      refine bodyPost_ret (v := .tuple #[.agg #[.int .i64 0, .int .i64 0, .slice none 0 0, .slice none 0 0], .bool false]) (by simp [results, Try.results34, go_sem, e0, e1, e2, e3]) rfl ⟨_, rfl, HY.out.1.mono (by omega), HSz.out.1, HSz.out.2, HY.out.2⟩
    · go_wp2_with fail
      refine bodyPost_ret (v := .tuple #[.agg #[.int .i64 0, .int .i64 0, .slice none 0 0, .slice none 0 0], .bool false]) (by simp [results, Try.results34, go_sem, e0, e1, e2, e3]) rfl ⟨_, rfl, HY.out.1.mono (by omega), HSz.out.1, HSz.out.2, HY.out.2⟩
  · rw [hv] at hm
    obtain ⟨rfl, rfl⟩ := Prod.mk.inj hm
    rw [hwd] at hrb
    subst hrb
    have c0 : ¬ (m : Int) = 0 := by omega
    have c00 : ¬ m = 0 := by omega
    have HWD := Lib.hid hwd
    clear hm hv h1 hwd
    go_enter Try.func34, Try.ntmps34
    go_upto_region 1 with fail
    rw [← hwa, ← hwb, ← hw1]
    clear hwa hwb hw1
    go_wp2_with fail
    refine (HB.out).mono ?_
    rintro e w2 ⟨S, mS, cS, rfl, o2, _, b2⟩
    have r2 := r1.below' b2
    have B2 := B3.trans (b2.mono B3.size)
    have y2' := y3.below' b2
    have z2' := z3.below' b2
    have cz := z2'.cell (i := 0) rfl
    have s12 := b2.size
    have HC := Lib.hid (gadgetConst_any x m w.heap.size (w.heap.size + 1) hx HWD.out m16 w2 y2' z2')
    clear r1 B3 o2 b2 HB y3 z3 cx cy y2' z2'
    go_wp2_with fail
    refine call_eq (args1 := #[.int .i64 0, .int .i64 0, .func (.func 67) #[] #[.pointer (some ⟨w.heap.size, 0, none⟩), .pointer (some ⟨w.heap.size + 1, 0, none⟩)]]) (w1 := w2) (by simp) rfl (Calls.mono HC.out ?_)
    rintro e w6 ⟨u, rfl, o6, b6⟩
    have r6 := r2.below' b6
    have B6 := B2.trans (b6.mono B2.size)
    clear r2 B2 b6
    obtain ⟨Gx, nx, cx, Ox, px, dx, rfl, hG, hO⟩ := id o6
    obtain ⟨z0, z1, z2, z3⟩ := r6.four
    have f0 := r6.free 0
    have f1 := r6.free 1
    have f2 := r6.free 2
    have f3 := r6.free 3
    have lt6 : w.heap.size + 1 + 1 < w2.heap.size := by omega
    obtain ⟨y7, o7, B7⟩ := fourSet (a := .int .i64 (constC x m).in0) (b := .int .i64 (constC x m).in1) (c := .slice Gx nx cx) (d := .slice Ox px dx) o6 r6 lt6 B6 (by omega)
    obtain ⟨e0, e1, e2, e3⟩ := y7.four
    have HY := Lib.hid (And.intro o7 B7)
    clear r6 o6 B6 hG hO y7 o7 B7
    go_wp2_with fail
    refine bodyPost_ret (v := .tuple #[.agg #[.int .i64 (constC x m).in0, .int .i64 (constC x m).in1, .slice Gx nx cx, .slice Ox px dx], .bool true]) (by simp [results, Try.results34, go_sem, e0, e1, e2, e3]) rfl ⟨_, rfl, HY.out.1.mono (by omega), HSz.out.1, HSz.out.2, HY.out.2⟩

end Go.Proofs.Ytnmjnffnelkciaa
