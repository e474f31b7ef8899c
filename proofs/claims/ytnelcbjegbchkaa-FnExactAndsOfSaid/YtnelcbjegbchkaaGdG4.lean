/- The model's gadgets, made. For widths of 1 to 8. -/
import Derived.Test.YtnelcbjegbchkaaGdG3
import Derived.Test.YtnelcbjegbchkaaGdG5
import Derived.Deep.DeepCutAuto
namespace Go.Proofs.Ytnelcbjegbchkaa
open Go Go.RowKit
set_option maxRecDepth 100000

set_option maxRecDepth 100000 in
set_option maxHeartbeats 2000000 in
theorem gdMake0_any (m : Nat) (m1 : 1 ≤ m) (m8 : m ≤ 8) (w : World) :
    Calls Try.prog 120 #[.int .i64 0, .int .i64 (m : Int)] w fun e w' => ∃ u, e = .returned u ∧ OwnC w' (w.heap.size + 1) u (kindC 0 m) ∧ Below w.heap.size w w' := by
  have r1 := Blk.new w #[.int .i64 0, .int .i64 0, .slice none 0 0, .slice none 0 0] 34
  have b1 := belowNew w (.cells #[.int .i64 0, .int .i64 0, .slice none 0 0, .slice none 0 0] 34)
  obtain ⟨w1, hw1⟩ : ∃ W, W = w.alloc (.cells #[.int .i64 0, .int .i64 0, .slice none 0 0, .slice none 0 0] 34) := ⟨_, rfl⟩
  have s1 : w1.heap.size = w.heap.size + 1 := by rw [hw1]; simp
  rw [← hw1] at r1 b1
  have HS1 := Lib.hid s1
  have l1 : w.heap.size < w1.heap.size := by omega
  clear s1
  go_enter Try.func120, Try.ntmps120
  go_wp2_with fail
  rw [← hw1]
  clear hw1
  refine (ciNew_any m m w1).mono ?_
  rintro e w2 ⟨q, rfl, M2, b2⟩
  have r2 := r1.below' b2
  have B2 := b1.trans (b2.mono b1.size)
  clear r1 b1
  go_wp2_with fail
  refine (gdRange_any 0 m w2 (by omega) (by omega) (by omega)).mono ?_
  rintro e w3 ⟨A, cA, rfl, o3, b3⟩
  have r3 := r2.below' b3
  have B3 := B2.trans (b3.mono B2.size)
  have M3 := M2.below b3
  have ha3 := o3.hasI
  clear r2 B2 M2 b3 o3
  go_wp2_with fail
  refine (gdRange_any (m : Int) m w3 (by omega) (by omega) (by omega)).mono ?_
  rintro e w4 ⟨A2, cA2, rfl, o4, b4⟩
  have r4 := r3.below' b4
  have B4 := B3.trans (b4.mono B3.size)
  have M4 := M3.below b4
  have ha4 := ha3.below b4
  have hb4 := o4.hasI
  clear r3 B3 M3 b4 o4 ha3
  go_wp2_with fail
  refine (gdAdd_any q w1.heap.size m m none 0 0 [] A m cA (rangeL 0 m) A2 m cA2 (rangeL (m : Int) m) w4 M4 (by omega) (by omega) (by omega) ha4 hb4 (Nat.le_refl _) (by omega) (by omega)).mono ?_
  rintro e w5 ⟨R5, n5, c5, O5, d5, rfl, o5, M5, t5⟩
  have r5 := r4.mk t5 M4 (by decide) (by decide)
  have B5 : Below w.heap.size w w5 := B4.trans (t5.below M4 (by omega))
  have l4 := M4.base
  have hq : q ≠ w.heap.size := by omega
  have l5 : w1.heap.size ≤ w4.heap.size := by have := M4.lt; omega
  obtain ⟨y6, o6, B6⟩ := M5.done (o5.mono l5) (by omega) B5
  have f5 := M5.blk.free 3
  have x5 := M5.blk.cell (i := 3) rfl
  have r6 := r5.other hq 3 (.slice O5 (m + 1) d5)
  obtain ⟨w6, hw6⟩ : ∃ W, W = w5.setCell ⟨q, 3, none⟩ (.slice O5 (m + 1) d5) := ⟨_, rfl⟩
  rw [← hw6] at y6 o6 B6 r6
  clear r4 B4 M4 ha4 hb4 t5 r5 M5 o5 B5
  go_upto_region 19 with fail
  rw [← hw6]
  clear hw6 f5 x5
  obtain ⟨k0, k1, k2, k3⟩ := y6.four
  obtain ⟨z0, z1, z2, z3⟩ := r6.four
  have f0 := r6.free 0
  have f1 := r6.free 1
  have f2 := r6.free 2
  have f3 := r6.free 3
  obtain ⟨y7, o7, B7⟩ := fourSet (a := .int .i64 ((m : Nat))) (b := .int .i64 ((m : Nat))) (c := .slice R5 n5 c5) (d := .slice O5 (m + 1) d5) o6 r6 (by omega) B6 (Nat.le_refl _)
  obtain ⟨e0, e1, e2, e3⟩ := y7.four
  have HY := Lib.hid (And.intro o7 B7)
  clear y6 o6 B6 r6 y7 o7 B7
  go_wp2_with fail
  refine bodyPost_ret (v := .agg #[.int .i64 ((m : Nat)), .int .i64 ((m : Nat)), .slice R5 n5 c5, .slice O5 (m + 1) d5]) (by simp [results, Try.results120, go_sem, e0, e1, e2, e3]) rfl ⟨_, rfl, ?_, HY.out.2⟩
  exact HY.out.1.mono (by have := HS1.out; omega)

set_option maxRecDepth 100000 in
set_option maxHeartbeats 2000000 in
theorem gdKind0_any (x : Int) (RC : Ci) (rb : Bool) (w : World) (hm : m_Kind 0 x = (RC, rb)) :
    Calls Try.prog 48 #[.int .i64 0, .int .i64 x] w fun e w' => ∃ u, e = .returned (.tuple #[u, .bool rb]) ∧ OwnC w' w.heap.size u RC ∧ Below w.heap.size w w' := by
  have r1 := Blk.new w #[.int .i64 0, .int .i64 0, .slice none 0 0, .slice none 0 0] 34
  have b1 := belowNew w (.cells #[.int .i64 0, .int .i64 0, .slice none 0 0, .slice none 0 0] 34)
  obtain ⟨w1, hw1⟩ : ∃ W, W = w.alloc (.cells #[.int .i64 0, .int .i64 0, .slice none 0 0, .slice none 0 0] 34) := ⟨_, rfl⟩
  have s1 : w1.heap.size = w.heap.size + 1 := by rw [hw1]; simp
  rw [← hw1] at r1 b1
  have HI := Lib.hid (l1In_any 0 0 6 true w1 rfl)
  rcases kind_cases (k := 0) (x := x) (by decide) with ⟨hno, hv⟩ | ⟨m, rfl, m1, m8, m5, _, hv, _⟩
  · rw [hv] at hm
    obtain ⟨rfl, rfl⟩ := Prod.mk.inj hm
    clear hm hv s1
    have r2 := r1
    have B2 := b1
    have hf : (decide (1 ≤ x) && decide (x ≤ 8)) = false := by simpa [kindOk] using hno
    have HW := Lib.hid (gdWidth_any x false w1 hf)
    clear hf hno r1 b1
    go_enter Try.func48, Try.ntmps48
    go_wp2_with fail
    rw [← hw1]
    clear hw1
    refine (HW.out).mono ?_
    rintro e w3 ⟨rfl, rfl⟩
    have f0 := r2.free 0
    have f1 := r2.free 1
    have f2 := r2.free 2
    have f3 := r2.free 3
    obtain ⟨z0, z1, z2, z3⟩ := r2.four
    obtain ⟨y7, o7, B7⟩ := fourSet (a := .int .i64 0) (b := .int .i64 0) (c := .slice none 0 0) (d := .slice none 0 0) (zeroOwnZ w1 (w.heap.size + 1)) r2 (Nat.lt_succ_self _) B2 (Nat.le_refl _)
    obtain ⟨e0, e1, e2, e3⟩ := y7.four
    have HY := Lib.hid (And.intro o7 B7)
    clear r2 B2 y7 o7 B7
    go_wp2_with fail
    refine bodyPost_ret (v := .tuple #[.agg #[.int .i64 0, .int .i64 0, .slice none 0 0, .slice none 0 0], .bool false]) (by simp [results, Try.results48, go_sem, e0, e1, e2, e3]) rfl ⟨_, rfl, HY.out.1.mono (Nat.le_succ _), HY.out.2⟩
  · rw [hv] at hm
    obtain ⟨rfl, rfl⟩ := Prod.mk.inj hm
    have hf : (decide (1 ≤ (m : Int)) && decide ((m : Int) ≤ 8)) = true := by simp; omega
    have HW := Lib.hid (gdWidth_any (m : Int) true w1 hf)
    have HC := Lib.hid (gdMake0_any m m1 m8 w1)
    have HS1 := Lib.hid s1
    clear hm hv hf s1 m5
    go_enter Try.func48, Try.ntmps48
    go_wp2_with fail
    rw [← hw1]
    clear hw1
    refine (HW.out).mono ?_
    rintro e w3 ⟨rfl, rfl⟩
    go_wp2_with fail
    refine (HI.out).mono ?_
    rintro e w3 ⟨rfl, rfl⟩
    go_wp2_with fail
    refine (HC.out).mono ?_
    rintro e w6 ⟨u, rfl, o6, b6⟩
    have r6 := r1.below' b6
    have B6 := b1.trans (b6.mono b1.size)
    obtain ⟨G, n, c, O, p, d, rfl, hG, hO⟩ := id o6
    obtain ⟨z0, z1, z2, z3⟩ := r6.four
    have f0 := r6.free 0
    have f1 := r6.free 1
    have f2 := r6.free 2
    have f3 := r6.free 3
    have lt6 : w.heap.size < w1.heap.size + 1 := by have := HS1.out; omega
    obtain ⟨y7, o7, B7⟩ := fourSet (a := .int .i64 (kindC 0 m).in0) (b := .int .i64 (kindC 0 m).in1) (c := .slice G n c) (d := .slice O p d) o6 r6 lt6 B6 (Nat.le_refl _)
    obtain ⟨e0, e1, e2, e3⟩ := y7.four
    have HY := Lib.hid (And.intro o7 B7)
    clear r1 b1 b6 r6 o6 B6 hG hO y7 o7 B7 lt6
    go_wp2_with fail
    refine bodyPost_ret (v := .tuple #[.agg #[.int .i64 (kindC 0 m).in0, .int .i64 (kindC 0 m).in1, .slice G n c, .slice O p d], .bool true]) (by simp [results, Try.results48, go_sem, e0, e1, e2, e3]) rfl ⟨_, rfl, ?_, HY.out.2⟩
    exact HY.out.1.mono (by have := HS1.out; omega)

set_option maxRecDepth 100000 in
set_option maxHeartbeats 2000000 in
theorem gdMake1_any (m : Nat) (m1 : 1 ≤ m) (m8 : m ≤ 8) (w : World) :
    Calls Try.prog 120 #[.int .i64 1, .int .i64 (m : Int)] w fun e w' => ∃ u, e = .returned u ∧ OwnC w' (w.heap.size + 1) u (kindC 1 m) ∧ Below w.heap.size w w' := by
  have r1 := Blk.new w #[.int .i64 0, .int .i64 0, .slice none 0 0, .slice none 0 0] 34
  have b1 := belowNew w (.cells #[.int .i64 0, .int .i64 0, .slice none 0 0, .slice none 0 0] 34)
  obtain ⟨w1, hw1⟩ : ∃ W, W = w.alloc (.cells #[.int .i64 0, .int .i64 0, .slice none 0 0, .slice none 0 0] 34) := ⟨_, rfl⟩
  have s1 : w1.heap.size = w.heap.size + 1 := by rw [hw1]; simp
  rw [← hw1] at r1 b1
  have HS1 := Lib.hid s1
  have l1 : w.heap.size < w1.heap.size := by omega
  clear s1
  go_enter Try.func120, Try.ntmps120
  go_wp2_with fail
  rw [← hw1]
  clear hw1
  refine (ciNew_any m m w1).mono ?_
  rintro e w2 ⟨q, rfl, M2, b2⟩
  have r2 := r1.below' b2
  have B2 := b1.trans (b2.mono b1.size)
  clear r1 b1
  go_wp2_with fail
  refine (gdRange_any 0 m w2 (by omega) (by omega) (by omega)).mono ?_
  rintro e w3 ⟨A, cA, rfl, o3, b3⟩
  have r3 := r2.below' b3
  have B3 := B2.trans (b3.mono B2.size)
  have M3 := M2.below b3
  have ha3 := o3.hasI
  clear r2 B2 M2 b3 o3
  go_wp2_with fail
  refine (gdRange_any (m : Int) m w3 (by omega) (by omega) (by omega)).mono ?_
  rintro e w4 ⟨A2, cA2, rfl, o4, b4⟩
  have r4 := r3.below' b4
  have B4 := B3.trans (b4.mono B3.size)
  have M4 := M3.below b4
  have ha4 := ha3.below b4
  have hb4 := o4.hasI
  clear r3 B3 M3 b4 o4 ha3
  go_wp2_with fail
  refine (gdSub_any q w1.heap.size m m none 0 0 [] A m cA (rangeL 0 m) A2 m cA2 (rangeL (m : Int) m) w4 M4 (by omega) (by omega) (by omega) ha4 hb4 (Nat.le_refl _) (by omega) (by omega)).mono ?_
  rintro e w5 ⟨R5, n5, c5, O5, d5, rfl, o5, M5, t5⟩
  have r5 := r4.mk t5 M4 (by decide) (by decide)
  have B5 : Below w.heap.size w w5 := B4.trans (t5.below M4 (by omega))
  have l4 := M4.base
  have hq : q ≠ w.heap.size := by omega
  have l5 : w1.heap.size ≤ w4.heap.size := by have := M4.lt; omega
  obtain ⟨y6, o6, B6⟩ := M5.done (o5.mono l5) (by omega) B5
  have f5 := M5.blk.free 3
  have x5 := M5.blk.cell (i := 3) rfl
  have r6 := r5.other hq 3 (.slice O5 (m + 1) d5)
  obtain ⟨w6, hw6⟩ : ∃ W, W = w5.setCell ⟨q, 3, none⟩ (.slice O5 (m + 1) d5) := ⟨_, rfl⟩
  rw [← hw6] at y6 o6 B6 r6
  clear r4 B4 M4 ha4 hb4 t5 r5 M5 o5 B5
  go_upto_region 19 with fail
  rw [← hw6]
  clear hw6 f5 x5
  obtain ⟨k0, k1, k2, k3⟩ := y6.four
  obtain ⟨z0, z1, z2, z3⟩ := r6.four
  have f0 := r6.free 0
  have f1 := r6.free 1
  have f2 := r6.free 2
  have f3 := r6.free 3
  obtain ⟨y7, o7, B7⟩ := fourSet (a := .int .i64 ((m : Nat))) (b := .int .i64 ((m : Nat))) (c := .slice R5 n5 c5) (d := .slice O5 (m + 1) d5) o6 r6 (by omega) B6 (Nat.le_refl _)
  obtain ⟨e0, e1, e2, e3⟩ := y7.four
  have HY := Lib.hid (And.intro o7 B7)
  clear y6 o6 B6 r6 y7 o7 B7
  go_wp2_with fail
  refine bodyPost_ret (v := .agg #[.int .i64 ((m : Nat)), .int .i64 ((m : Nat)), .slice R5 n5 c5, .slice O5 (m + 1) d5]) (by simp [results, Try.results120, go_sem, e0, e1, e2, e3]) rfl ⟨_, rfl, ?_, HY.out.2⟩
  exact HY.out.1.mono (by have := HS1.out; omega)

set_option maxRecDepth 100000 in
set_option maxHeartbeats 2000000 in
theorem gdKind1_any (x : Int) (RC : Ci) (rb : Bool) (w : World) (hm : m_Kind 1 x = (RC, rb)) :
    Calls Try.prog 48 #[.int .i64 1, .int .i64 x] w fun e w' => ∃ u, e = .returned (.tuple #[u, .bool rb]) ∧ OwnC w' w.heap.size u RC ∧ Below w.heap.size w w' := by
  have r1 := Blk.new w #[.int .i64 0, .int .i64 0, .slice none 0 0, .slice none 0 0] 34
  have b1 := belowNew w (.cells #[.int .i64 0, .int .i64 0, .slice none 0 0, .slice none 0 0] 34)
  obtain ⟨w1, hw1⟩ : ∃ W, W = w.alloc (.cells #[.int .i64 0, .int .i64 0, .slice none 0 0, .slice none 0 0] 34) := ⟨_, rfl⟩
  have s1 : w1.heap.size = w.heap.size + 1 := by rw [hw1]; simp
  rw [← hw1] at r1 b1
  have HI := Lib.hid (l1In_any 1 0 6 true w1 rfl)
  rcases kind_cases (k := 1) (x := x) (by decide) with ⟨hno, hv⟩ | ⟨m, rfl, m1, m8, m5, _, hv, _⟩
  · rw [hv] at hm
    obtain ⟨rfl, rfl⟩ := Prod.mk.inj hm
    clear hm hv s1
    have r2 := r1
    have B2 := b1
    have hf : (decide (1 ≤ x) && decide (x ≤ 8)) = false := by simpa [kindOk] using hno
    have HW := Lib.hid (gdWidth_any x false w1 hf)
    clear hf hno r1 b1
    go_enter Try.func48, Try.ntmps48
    go_wp2_with fail
    rw [← hw1]
    clear hw1
    refine (HW.out).mono ?_
    rintro e w3 ⟨rfl, rfl⟩
    have f0 := r2.free 0
    have f1 := r2.free 1
    have f2 := r2.free 2
    have f3 := r2.free 3
    obtain ⟨z0, z1, z2, z3⟩ := r2.four
    obtain ⟨y7, o7, B7⟩ := fourSet (a := .int .i64 0) (b := .int .i64 0) (c := .slice none 0 0) (d := .slice none 0 0) (zeroOwnZ w1 (w.heap.size + 1)) r2 (Nat.lt_succ_self _) B2 (Nat.le_refl _)
    obtain ⟨e0, e1, e2, e3⟩ := y7.four
    have HY := Lib.hid (And.intro o7 B7)
    clear r2 B2 y7 o7 B7
    go_wp2_with fail
    refine bodyPost_ret (v := .tuple #[.agg #[.int .i64 0, .int .i64 0, .slice none 0 0, .slice none 0 0], .bool false]) (by simp [results, Try.results48, go_sem, e0, e1, e2, e3]) rfl ⟨_, rfl, HY.out.1.mono (Nat.le_succ _), HY.out.2⟩
  · rw [hv] at hm
    obtain ⟨rfl, rfl⟩ := Prod.mk.inj hm
    have hf : (decide (1 ≤ (m : Int)) && decide ((m : Int) ≤ 8)) = true := by simp; omega
    have HW := Lib.hid (gdWidth_any (m : Int) true w1 hf)
    have HC := Lib.hid (gdMake1_any m m1 m8 w1)
    have HS1 := Lib.hid s1
    clear hm hv hf s1 m5
    go_enter Try.func48, Try.ntmps48
    go_wp2_with fail
    rw [← hw1]
    clear hw1
    refine (HW.out).mono ?_
    rintro e w3 ⟨rfl, rfl⟩
    go_wp2_with fail
    refine (HI.out).mono ?_
    rintro e w3 ⟨rfl, rfl⟩
    go_wp2_with fail
    refine (HC.out).mono ?_
    rintro e w6 ⟨u, rfl, o6, b6⟩
    have r6 := r1.below' b6
    have B6 := b1.trans (b6.mono b1.size)
    obtain ⟨G, n, c, O, p, d, rfl, hG, hO⟩ := id o6
    obtain ⟨z0, z1, z2, z3⟩ := r6.four
    have f0 := r6.free 0
    have f1 := r6.free 1
    have f2 := r6.free 2
    have f3 := r6.free 3
    have lt6 : w.heap.size < w1.heap.size + 1 := by have := HS1.out; omega
    obtain ⟨y7, o7, B7⟩ := fourSet (a := .int .i64 (kindC 1 m).in0) (b := .int .i64 (kindC 1 m).in1) (c := .slice G n c) (d := .slice O p d) o6 r6 lt6 B6 (Nat.le_refl _)
    obtain ⟨e0, e1, e2, e3⟩ := y7.four
    have HY := Lib.hid (And.intro o7 B7)
    clear r1 b1 b6 r6 o6 B6 hG hO y7 o7 B7 lt6
    go_wp2_with fail
    refine bodyPost_ret (v := .tuple #[.agg #[.int .i64 (kindC 1 m).in0, .int .i64 (kindC 1 m).in1, .slice G n c, .slice O p d], .bool true]) (by simp [results, Try.results48, go_sem, e0, e1, e2, e3]) rfl ⟨_, rfl, ?_, HY.out.2⟩
    exact HY.out.1.mono (by have := HS1.out; omega)

set_option maxRecDepth 100000 in
set_option maxHeartbeats 2000000 in
theorem gdMake3_any (m : Nat) (m1 : 1 ≤ m) (m8 : m ≤ 8) (w : World) :
    Calls Try.prog 120 #[.int .i64 3, .int .i64 (m : Int)] w fun e w' => ∃ u, e = .returned u ∧ OwnC w' (w.heap.size + 1) u (kindC 3 m) ∧ Below w.heap.size w w' := by
  have r1 := Blk.new w #[.int .i64 0, .int .i64 0, .slice none 0 0, .slice none 0 0] 34
  have b1 := belowNew w (.cells #[.int .i64 0, .int .i64 0, .slice none 0 0, .slice none 0 0] 34)
  obtain ⟨w1, hw1⟩ : ∃ W, W = w.alloc (.cells #[.int .i64 0, .int .i64 0, .slice none 0 0, .slice none 0 0] 34) := ⟨_, rfl⟩
  have s1 : w1.heap.size = w.heap.size + 1 := by rw [hw1]; simp
  rw [← hw1] at r1 b1
  have HS1 := Lib.hid s1
  have l1 : w.heap.size < w1.heap.size := by omega
  clear s1
  go_enter Try.func120, Try.ntmps120
  go_wp2_with fail
  rw [← hw1]
  clear hw1
  refine (ciNew_any m m w1).mono ?_
  rintro e w2 ⟨q, rfl, M2, b2⟩
  have r2 := r1.below' b2
  have B2 := b1.trans (b2.mono b1.size)
  clear r1 b1
  go_wp2_with fail
  refine (gdRange_any 0 m w2 (by omega) (by omega) (by omega)).mono ?_
  rintro e w3 ⟨A, cA, rfl, o3, b3⟩
  have r3 := r2.below' b3
  have B3 := B2.trans (b3.mono B2.size)
  have M3 := M2.below b3
  have ha3 := o3.hasI
  clear r2 B2 M2 b3 o3
  go_wp2_with fail
  refine (gdRange_any (m : Int) m w3 (by omega) (by omega) (by omega)).mono ?_
  rintro e w4 ⟨A2, cA2, rfl, o4, b4⟩
  have r4 := r3.below' b4
  have B4 := B3.trans (b4.mono B3.size)
  have M4 := M3.below b4
  have ha4 := ha3.below b4
  have hb4 := o4.hasI
  clear r3 B3 M3 b4 o4 ha3
  go_wp2_with fail
  refine (gdEqual_any q w1.heap.size m m none 0 0 [] A m cA (rangeL 0 m) A2 m cA2 (rangeL (m : Int) m) w4 M4 (by omega) (by omega) (by omega) ha4 hb4 (Nat.le_refl _) (by omega) (by omega)).mono ?_
  rintro e wl ⟨R5, n5, c5, G5, z5, rfl, hz5, Ml, tl⟩
  have bl := belowNew wl (.cells #[.int .i64 z5] 3)
  have ol : Own (wl.alloc (.cells #[.int .i64 z5] 3)) w4.heap.size (some ⟨wl.heap.size, 0, none⟩) 1 1 [z5] := ⟨rfl, World.ownsRow_lit wl #[.int .i64 z5] 1 tl.size (by decide) rfl⟩
  obtain ⟨w5, hw5⟩ : ∃ W, W = wl.alloc (.cells #[.int .i64 z5] 3) := ⟨_, rfl⟩
  rw [← hw5] at bl ol
  have M5 := Ml.below bl
  have t5 := tl.next bl
  clear Ml tl bl
  have o5 := ol
  clear ol
  have r5 := r4.mk t5 M4 (by decide) (by decide)
  have B5 : Below w.heap.size w w5 := B4.trans (t5.below M4 (by omega))
  have l4 := M4.base
  have hq : q ≠ w.heap.size := by omega
  have l5 : w1.heap.size ≤ w4.heap.size := by have := M4.lt; omega
  obtain ⟨y6, o6, B6⟩ := M5.done (o5.mono l5) (by omega) B5
  have f5 := M5.blk.free 3
  have x5 := M5.blk.cell (i := 3) rfl
  have r6 := r5.other hq 3 (.slice (some ⟨wl.heap.size, 0, none⟩) 1 1)
  obtain ⟨w6, hw6⟩ : ∃ W, W = w5.setCell ⟨q, 3, none⟩ (.slice (some ⟨wl.heap.size, 0, none⟩) 1 1) := ⟨_, rfl⟩
  rw [← hw6] at y6 o6 B6 r6
  clear r4 B4 M4 ha4 hb4 t5 r5 M5 o5 B5
  rw [hw5] at f5 x5
  go_upto_region 19 with fail
  rw [← hw5, ← hw6]
  clear hw5 hw6 f5 x5
  obtain ⟨k0, k1, k2, k3⟩ := y6.four
  obtain ⟨z0, z1, z2, z3⟩ := r6.four
  have f0 := r6.free 0
  have f1 := r6.free 1
  have f2 := r6.free 2
  have f3 := r6.free 3
  obtain ⟨y7, o7, B7⟩ := fourSet (a := .int .i64 ((m : Nat))) (b := .int .i64 ((m : Nat))) (c := .slice R5 n5 c5) (d := .slice (some ⟨wl.heap.size, 0, none⟩) 1 1) o6 r6 (by omega) B6 (Nat.le_refl _)
  obtain ⟨e0, e1, e2, e3⟩ := y7.four
  have HK : Hid ((⟨(m : Nat), (m : Nat), G5, [z5]⟩ : Ci) = kindC 3 m) := by show _ = _; simp only [kindC, kindG, hz5.out]; simp
  rw [HK.out] at o7
  have HY := Lib.hid (And.intro o7 B7)
  clear y6 o6 B6 r6 y7 o7 B7
  go_wp2_with fail
  refine bodyPost_ret (v := .agg #[.int .i64 ((m : Nat)), .int .i64 ((m : Nat)), .slice R5 n5 c5, .slice (some ⟨wl.heap.size, 0, none⟩) 1 1]) (by simp [results, Try.results120, go_sem, e0, e1, e2, e3]) rfl ⟨_, rfl, ?_, HY.out.2⟩
  exact HY.out.1.mono (by have := HS1.out; omega)

set_option maxRecDepth 100000 in
set_option maxHeartbeats 2000000 in
theorem gdKind3_any (x : Int) (RC : Ci) (rb : Bool) (w : World) (hm : m_Kind 3 x = (RC, rb)) :
    Calls Try.prog 48 #[.int .i64 3, .int .i64 x] w fun e w' => ∃ u, e = .returned (.tuple #[u, .bool rb]) ∧ OwnC w' w.heap.size u RC ∧ Below w.heap.size w w' := by
  have r1 := Blk.new w #[.int .i64 0, .int .i64 0, .slice none 0 0, .slice none 0 0] 34
  have b1 := belowNew w (.cells #[.int .i64 0, .int .i64 0, .slice none 0 0, .slice none 0 0] 34)
  obtain ⟨w1, hw1⟩ : ∃ W, W = w.alloc (.cells #[.int .i64 0, .int .i64 0, .slice none 0 0, .slice none 0 0] 34) := ⟨_, rfl⟩
  have s1 : w1.heap.size = w.heap.size + 1 := by rw [hw1]; simp
  rw [← hw1] at r1 b1
  have HI := Lib.hid (l1In_any 3 0 6 true w1 rfl)
  rcases kind_cases (k := 3) (x := x) (by decide) with ⟨hno, hv⟩ | ⟨m, rfl, m1, m8, m5, _, hv, _⟩
  · rw [hv] at hm
    obtain ⟨rfl, rfl⟩ := Prod.mk.inj hm
    clear hm hv s1
    have r2 := r1
    have B2 := b1
    have hf : (decide (1 ≤ x) && decide (x ≤ 8)) = false := by simpa [kindOk] using hno
    have HW := Lib.hid (gdWidth_any x false w1 hf)
    clear hf hno r1 b1
    go_enter Try.func48, Try.ntmps48
    go_wp2_with fail
    rw [← hw1]
    clear hw1
    refine (HW.out).mono ?_
    rintro e w3 ⟨rfl, rfl⟩
    have f0 := r2.free 0
    have f1 := r2.free 1
    have f2 := r2.free 2
    have f3 := r2.free 3
    obtain ⟨z0, z1, z2, z3⟩ := r2.four
    obtain ⟨y7, o7, B7⟩ := fourSet (a := .int .i64 0) (b := .int .i64 0) (c := .slice none 0 0) (d := .slice none 0 0) (zeroOwnZ w1 (w.heap.size + 1)) r2 (Nat.lt_succ_self _) B2 (Nat.le_refl _)
    obtain ⟨e0, e1, e2, e3⟩ := y7.four
    have HY := Lib.hid (And.intro o7 B7)
    clear r2 B2 y7 o7 B7
    go_wp2_with fail
    refine bodyPost_ret (v := .tuple #[.agg #[.int .i64 0, .int .i64 0, .slice none 0 0, .slice none 0 0], .bool false]) (by simp [results, Try.results48, go_sem, e0, e1, e2, e3]) rfl ⟨_, rfl, HY.out.1.mono (Nat.le_succ _), HY.out.2⟩
  · rw [hv] at hm
    obtain ⟨rfl, rfl⟩ := Prod.mk.inj hm
    have hf : (decide (1 ≤ (m : Int)) && decide ((m : Int) ≤ 8)) = true := by simp; omega
    have HW := Lib.hid (gdWidth_any (m : Int) true w1 hf)
    have HC := Lib.hid (gdMake3_any m m1 m8 w1)
    have HS1 := Lib.hid s1
    clear hm hv hf s1 m5
    go_enter Try.func48, Try.ntmps48
    go_wp2_with fail
    rw [← hw1]
    clear hw1
    refine (HW.out).mono ?_
    rintro e w3 ⟨rfl, rfl⟩
    go_wp2_with fail
    refine (HI.out).mono ?_
    rintro e w3 ⟨rfl, rfl⟩
    go_wp2_with fail
    refine (HC.out).mono ?_
    rintro e w6 ⟨u, rfl, o6, b6⟩
    have r6 := r1.below' b6
    have B6 := b1.trans (b6.mono b1.size)
    obtain ⟨G, n, c, O, p, d, rfl, hG, hO⟩ := id o6
    obtain ⟨z0, z1, z2, z3⟩ := r6.four
    have f0 := r6.free 0
    have f1 := r6.free 1
    have f2 := r6.free 2
    have f3 := r6.free 3
    have lt6 : w.heap.size < w1.heap.size + 1 := by have := HS1.out; omega
    obtain ⟨y7, o7, B7⟩ := fourSet (a := .int .i64 (kindC 3 m).in0) (b := .int .i64 (kindC 3 m).in1) (c := .slice G n c) (d := .slice O p d) o6 r6 lt6 B6 (Nat.le_refl _)
    obtain ⟨e0, e1, e2, e3⟩ := y7.four
    have HY := Lib.hid (And.intro o7 B7)
    clear r1 b1 b6 r6 o6 B6 hG hO y7 o7 B7 lt6
    go_wp2_with fail
    refine bodyPost_ret (v := .tuple #[.agg #[.int .i64 (kindC 3 m).in0, .int .i64 (kindC 3 m).in1, .slice G n c, .slice O p d], .bool true]) (by simp [results, Try.results48, go_sem, e0, e1, e2, e3]) rfl ⟨_, rfl, ?_, HY.out.2⟩
    exact HY.out.1.mono (by have := HS1.out; omega)

set_option maxRecDepth 100000 in
set_option maxHeartbeats 2000000 in
theorem gdMake4_any (m : Nat) (m1 : 1 ≤ m) (m8 : m ≤ 8) (w : World) :
    Calls Try.prog 120 #[.int .i64 4, .int .i64 (m : Int)] w fun e w' => ∃ u, e = .returned u ∧ OwnC w' (w.heap.size + 1) u (kindC 4 m) ∧ Below w.heap.size w w' := by
  have r1 := Blk.new w #[.int .i64 0, .int .i64 0, .slice none 0 0, .slice none 0 0] 34
  have b1 := belowNew w (.cells #[.int .i64 0, .int .i64 0, .slice none 0 0, .slice none 0 0] 34)
  obtain ⟨w1, hw1⟩ : ∃ W, W = w.alloc (.cells #[.int .i64 0, .int .i64 0, .slice none 0 0, .slice none 0 0] 34) := ⟨_, rfl⟩
  have s1 : w1.heap.size = w.heap.size + 1 := by rw [hw1]; simp
  rw [← hw1] at r1 b1
  have HS1 := Lib.hid s1
  have l1 : w.heap.size < w1.heap.size := by omega
  clear s1
  go_enter Try.func120, Try.ntmps120
  go_wp2_with fail
  rw [← hw1]
  clear hw1
  refine (ciNew_any m m w1).mono ?_
  rintro e wa ⟨qa, rfl, _, ba⟩
  have ra := r1.below' ba
  have Ba := b1.trans (ba.mono b1.size)
  have sa := ba.size
  clear r1 b1 ba
  have wm : IntKind.i64.wrap (2 * (m : Int)) = ((2 * m : Nat) : Int) := by rw [wrapIn (by omega) (by omega)]; push_cast; rfl
  go_wp2_with fail
  refine call_eq (args1 := #[.int .i64 ((2 * m : Nat) : Int), .int .i64 ((1 : Nat) : Int)]) (w1 := wa) (by simp) rfl ((ciNew_any (2 * m) 1 wa).mono ?_)
  rintro e w2 ⟨q, rfl, M2, b2⟩
  have r2 := ra.below' b2
  have B2 := Ba.trans (b2.mono Ba.size)
  clear ra Ba
  go_wp2_with fail
  refine (gdRange_any 0 m w2 (by omega) (by omega) (by omega)).mono ?_
  rintro e w3 ⟨A, cA, rfl, o3, b3⟩
  have r3 := r2.below' b3
  have B3 := B2.trans (b3.mono B2.size)
  have M3 := M2.below b3
  have ha3 := o3.hasI
  clear r2 B2 M2 b3 o3
  go_wp2_with fail
  refine (gdRange_any (m : Int) m w3 (by omega) (by omega) (by omega)).mono ?_
  rintro e w4 ⟨A2, cA2, rfl, o4, b4⟩
  have r4 := r3.below' b4
  have B4 := B3.trans (b4.mono B3.size)
  have M4 := M3.below b4
  have ha4 := ha3.below b4
  have hb4 := o4.hasI
  clear r3 B3 M3 b4 o4 ha3
  go_wp2_with fail
  refine call_eq (args1 := #[.pointer (some ⟨q, 0, none⟩), .int .i64 ((2 * m : Nat) : Int), .slice A m cA, .slice A2 m cA2]) (w1 := w4) (by simp) rfl ((gdPick_any ((2 * m : Nat) : Int) q wa.heap.size (2 * m) 1 none 0 0 [] A m cA (rangeL 0 m) A2 m cA2 (rangeL (m : Int) m) w4 M4 (by omega) (by omega) (by omega) ha4 hb4 (Nat.le_refl _) (by omega) (by omega)).mono ?_)
  rintro e w5 ⟨R5, n5, c5, O5, d5, G5, os5, rfl, hs5, o5, M5, t5⟩
  have r5 := r4.mk t5 M4 (by decide) (by decide)
  have B5 : Below w.heap.size w w5 := B4.trans (t5.below M4 (by omega))
  have l4 := M4.base
  have hq : q ≠ w.heap.size := by omega
  have l5 : wa.heap.size ≤ w4.heap.size := by have := M4.lt; omega
  obtain ⟨y6, o6, B6⟩ := M5.done (o5.mono l5) (by omega) B5
  rw [show ((2 * m : Nat) : Int) = 2 * (m : Int) by push_cast; rfl, show ((1 : Nat) : Int) = 1 from rfl] at y6 o6
  have f5 := M5.blk.free 3
  have x5 := M5.blk.cell (i := 3) rfl
  have r6 := r5.other hq 3 (.slice O5 m d5)
  obtain ⟨w6, hw6⟩ : ∃ W, W = w5.setCell ⟨q, 3, none⟩ (.slice O5 m d5) := ⟨_, rfl⟩
  rw [← hw6] at y6 o6 B6 r6
  clear r4 B4 M4 ha4 hb4 t5 r5 M5 o5 B5
  go_upto_region 19 with fail
  rw [← hw6]
  clear hw6 f5 x5
  obtain ⟨k0, k1, k2, k3⟩ := y6.four
  obtain ⟨z0, z1, z2, z3⟩ := r6.four
  have f0 := r6.free 0
  have f1 := r6.free 1
  have f2 := r6.free 2
  have f3 := r6.free 3
  obtain ⟨y7, o7, B7⟩ := fourSet (a := .int .i64 (2 * (m : Int))) (b := .int .i64 (1)) (c := .slice R5 n5 c5) (d := .slice O5 m d5) o6 r6 (by omega) B6 (Nat.le_refl _)
  obtain ⟨e0, e1, e2, e3⟩ := y7.four
  have HK : Hid ((⟨2 * (m : Int), 1, G5, os5⟩ : Ci) = kindC 4 m) := by show _ = _; simp only [kindC, kindG, hs5.out]; simp
  rw [HK.out] at o7
  have HY := Lib.hid (And.intro o7 B7)
  clear y6 o6 B6 r6 y7 o7 B7
  go_wp2_with fail
  refine bodyPost_ret (v := .agg #[.int .i64 (2 * (m : Int)), .int .i64 (1), .slice R5 n5 c5, .slice O5 m d5]) (by simp [results, Try.results120, go_sem, e0, e1, e2, e3]) rfl ⟨_, rfl, ?_, HY.out.2⟩
  exact HY.out.1.mono (by have := HS1.out; omega)

set_option maxRecDepth 100000 in
set_option maxHeartbeats 2000000 in
theorem gdKind4_any (x : Int) (RC : Ci) (rb : Bool) (w : World) (hm : m_Kind 4 x = (RC, rb)) :
    Calls Try.prog 48 #[.int .i64 4, .int .i64 x] w fun e w' => ∃ u, e = .returned (.tuple #[u, .bool rb]) ∧ OwnC w' w.heap.size u RC ∧ Below w.heap.size w w' := by
  have r1 := Blk.new w #[.int .i64 0, .int .i64 0, .slice none 0 0, .slice none 0 0] 34
  have b1 := belowNew w (.cells #[.int .i64 0, .int .i64 0, .slice none 0 0, .slice none 0 0] 34)
  obtain ⟨w1, hw1⟩ : ∃ W, W = w.alloc (.cells #[.int .i64 0, .int .i64 0, .slice none 0 0, .slice none 0 0] 34) := ⟨_, rfl⟩
  have s1 : w1.heap.size = w.heap.size + 1 := by rw [hw1]; simp
  rw [← hw1] at r1 b1
  have HI := Lib.hid (l1In_any 4 0 6 true w1 rfl)
  rcases kind_cases (k := 4) (x := x) (by decide) with ⟨hno, hv⟩ | ⟨m, rfl, m1, m8, m5, _, hv, _⟩
  · rw [hv] at hm
    obtain ⟨rfl, rfl⟩ := Prod.mk.inj hm
    clear hm hv s1
    have r2 := r1
    have B2 := b1
    have hf : (decide (1 ≤ x) && decide (x ≤ 8)) = false := by simpa [kindOk] using hno
    have HW := Lib.hid (gdWidth_any x false w1 hf)
    clear hf hno r1 b1
    go_enter Try.func48, Try.ntmps48
    go_wp2_with fail
    rw [← hw1]
    clear hw1
    refine (HW.out).mono ?_
    rintro e w3 ⟨rfl, rfl⟩
    have f0 := r2.free 0
    have f1 := r2.free 1
    have f2 := r2.free 2
    have f3 := r2.free 3
    obtain ⟨z0, z1, z2, z3⟩ := r2.four
    obtain ⟨y7, o7, B7⟩ := fourSet (a := .int .i64 0) (b := .int .i64 0) (c := .slice none 0 0) (d := .slice none 0 0) (zeroOwnZ w1 (w.heap.size + 1)) r2 (Nat.lt_succ_self _) B2 (Nat.le_refl _)
    obtain ⟨e0, e1, e2, e3⟩ := y7.four
    have HY := Lib.hid (And.intro o7 B7)
    clear r2 B2 y7 o7 B7
    go_wp2_with fail
    refine bodyPost_ret (v := .tuple #[.agg #[.int .i64 0, .int .i64 0, .slice none 0 0, .slice none 0 0], .bool false]) (by simp [results, Try.results48, go_sem, e0, e1, e2, e3]) rfl ⟨_, rfl, HY.out.1.mono (Nat.le_succ _), HY.out.2⟩
  · rw [hv] at hm
    obtain ⟨rfl, rfl⟩ := Prod.mk.inj hm
    have hf : (decide (1 ≤ (m : Int)) && decide ((m : Int) ≤ 8)) = true := by simp; omega
    have HW := Lib.hid (gdWidth_any (m : Int) true w1 hf)
    have HC := Lib.hid (gdMake4_any m m1 m8 w1)
    have HS1 := Lib.hid s1
    clear hm hv hf s1 m5
    go_enter Try.func48, Try.ntmps48
    go_wp2_with fail
    rw [← hw1]
    clear hw1
    refine (HW.out).mono ?_
    rintro e w3 ⟨rfl, rfl⟩
    go_wp2_with fail
    refine (HI.out).mono ?_
    rintro e w3 ⟨rfl, rfl⟩
    go_wp2_with fail
    refine (HC.out).mono ?_
    rintro e w6 ⟨u, rfl, o6, b6⟩
    have r6 := r1.below' b6
    have B6 := b1.trans (b6.mono b1.size)
    obtain ⟨G, n, c, O, p, d, rfl, hG, hO⟩ := id o6
    obtain ⟨z0, z1, z2, z3⟩ := r6.four
    have f0 := r6.free 0
    have f1 := r6.free 1
    have f2 := r6.free 2
    have f3 := r6.free 3
    have lt6 : w.heap.size < w1.heap.size + 1 := by have := HS1.out; omega
    obtain ⟨y7, o7, B7⟩ := fourSet (a := .int .i64 (kindC 4 m).in0) (b := .int .i64 (kindC 4 m).in1) (c := .slice G n c) (d := .slice O p d) o6 r6 lt6 B6 (Nat.le_refl _)
    obtain ⟨e0, e1, e2, e3⟩ := y7.four
    have HY := Lib.hid (And.intro o7 B7)
    clear r1 b1 b6 r6 o6 B6 hG hO y7 o7 B7 lt6
    go_wp2_with fail
    refine bodyPost_ret (v := .tuple #[.agg #[.int .i64 (kindC 4 m).in0, .int .i64 (kindC 4 m).in1, .slice G n c, .slice O p d], .bool true]) (by simp [results, Try.results48, go_sem, e0, e1, e2, e3]) rfl ⟨_, rfl, ?_, HY.out.2⟩
    exact HY.out.1.mono (by have := HS1.out; omega)

set_option maxRecDepth 100000 in
set_option maxHeartbeats 2000000 in
theorem gdMake5_any (m : Nat) (m1 : 1 ≤ m) (m8 : m ≤ 8) (w : World) :
    Calls Try.prog 120 #[.int .i64 5, .int .i64 (m : Int)] w fun e w' => ∃ u, e = .returned u ∧ OwnC w' (w.heap.size + 1) u (kindC 5 m) ∧ Below w.heap.size w w' := by
  have r1 := Blk.new w #[.int .i64 0, .int .i64 0, .slice none 0 0, .slice none 0 0] 34
  have b1 := belowNew w (.cells #[.int .i64 0, .int .i64 0, .slice none 0 0, .slice none 0 0] 34)
  obtain ⟨w1, hw1⟩ : ∃ W, W = w.alloc (.cells #[.int .i64 0, .int .i64 0, .slice none 0 0, .slice none 0 0] 34) := ⟨_, rfl⟩
  have s1 : w1.heap.size = w.heap.size + 1 := by rw [hw1]; simp
  rw [← hw1] at r1 b1
  have HS1 := Lib.hid s1
  have l1 : w.heap.size < w1.heap.size := by omega
  clear s1
  go_enter Try.func120, Try.ntmps120
  go_wp2_with fail
  rw [← hw1]
  clear hw1
  refine (ciNew_any m m w1).mono ?_
  rintro e w2 ⟨q, rfl, M2, b2⟩
  have r2 := r1.below' b2
  have B2 := b1.trans (b2.mono b1.size)
  clear r1 b1
  go_wp2_with fail
  refine (gdRange_any 0 m w2 (by omega) (by omega) (by omega)).mono ?_
  rintro e w3 ⟨A, cA, rfl, o3, b3⟩
  have r3 := r2.below' b3
  have B3 := B2.trans (b3.mono B2.size)
  have M3 := M2.below b3
  have ha3 := o3.hasI
  clear r2 B2 M2 b3 o3
  go_wp2_with fail
  refine (gdRange_any (m : Int) m w3 (by omega) (by omega) (by omega)).mono ?_
  rintro e w4 ⟨A2, cA2, rfl, o4, b4⟩
  have r4 := r3.below' b4
  have B4 := B3.trans (b4.mono B3.size)
  have M4 := M3.below b4
  have ha4 := ha3.below b4
  have hb4 := o4.hasI
  clear r3 B3 M3 b4 o4 ha3
  go_wp2_with fail
  refine (gdSub_any q w1.heap.size m m none 0 0 [] A m cA (rangeL 0 m) A2 m cA2 (rangeL (m : Int) m) w4 M4 (by omega) (by omega) (by omega) ha4 hb4 (Nat.le_refl _) (by omega) (by omega)).mono ?_
  rintro e wl ⟨Rl, nl, cl, Ol, dl, rfl, ol, Ml, tl⟩
  obtain ⟨gl, rfl⟩ := ol.spot (Nat.succ_pos m)
  have cl0 := ol.cellR (k := m) (Nat.lt_succ_self m)
  obtain ⟨sb, hsb⟩ : ∃ sb : Int, (carOuts (subStep (m + m)) [] (rangeL 0 m) (rangeL m m) m).getD m 0 = sb := ⟨_, rfl⟩
  rw [hsb] at cl0
  have HSB := Lib.hid hsb
  have hal := ha4.mk tl M4
  have hbl := hb4.mk tl M4
  have rl := r4.mk tl M4 (by decide) (by decide)
  have nlb : nl ≤ 6 * m := by have h1 := Ml.len; have h2 := carTo_gates (subSteps (m + m)) [] (rangeL 0 m) (rangeL (m : Int) m) m; simp at h2; omega
  have j0 : (0 : Int) ≤ (m : Int) := by omega
  have j1 : (m : Int) < (m : Int) + 1 := by omega
  clear hsb
  go_wp2_with fail
  refine (gdPick_any sb q w1.heap.size m m Rl nl cl _ A2 m cA2 (rangeL (m : Int) m) A m cA (rangeL 0 m) wl Ml (by omega) (by omega) (by omega) hbl hal (Nat.le_refl _) (by omega) (by omega)).mono ?_
  rintro e w5 ⟨R5, n5, c5, O5, d5, G5, os5, rfl, hs5, o5', M5, t5'⟩
  have t5 := tl.trans t5'
  have o5 := o5'.mono tl.size
  clear rl hal hbl tl t5' Ml ol o5'
  have r5 := r4.mk t5 M4 (by decide) (by decide)
  have B5 : Below w.heap.size w w5 := B4.trans (t5.below M4 (by omega))
  have l4 := M4.base
  have hq : q ≠ w.heap.size := by omega
  have l5 : w1.heap.size ≤ w4.heap.size := by have := M4.lt; omega
  obtain ⟨y6, o6, B6⟩ := M5.done (o5.mono l5) (by omega) B5
  have f5 := M5.blk.free 3
  have x5 := M5.blk.cell (i := 3) rfl
  have r6 := r5.other hq 3 (.slice O5 m d5)
  obtain ⟨w6, hw6⟩ : ∃ W, W = w5.setCell ⟨q, 3, none⟩ (.slice O5 m d5) := ⟨_, rfl⟩
  rw [← hw6] at y6 o6 B6 r6
  clear r4 B4 M4 ha4 hb4 t5 r5 M5 o5 B5
  go_upto_region 19 with fail
  rw [← hw6]
  clear hw6 f5 x5
  obtain ⟨k0, k1, k2, k3⟩ := y6.four
  obtain ⟨z0, z1, z2, z3⟩ := r6.four
  have f0 := r6.free 0
  have f1 := r6.free 1
  have f2 := r6.free 2
  have f3 := r6.free 3
  obtain ⟨y7, o7, B7⟩ := fourSet (a := .int .i64 ((m : Nat))) (b := .int .i64 ((m : Nat))) (c := .slice R5 n5 c5) (d := .slice O5 m d5) o6 r6 (by omega) B6 (Nat.le_refl _)
  obtain ⟨e0, e1, e2, e3⟩ := y7.four
  have HK : Hid ((⟨(m : Nat), (m : Nat), G5, os5⟩ : Ci) = kindC 5 m) := by
    show _ = _
    have e1 : (carTo (subStep (m + m)) [] (rangeL 0 m) (rangeL (m : Int) m) m).2.2 = sb := by
      rw [← HSB.out, carOuts]
      have := carTo_outs (subStep (m + m)) [] (rangeL 0 m) (rangeL (m : Int) m) m
      simp [List.getD, this]
    simp only [kindC, kindG, e1, hs5.out]
    simp
  rw [HK.out] at o7
  have HY := Lib.hid (And.intro o7 B7)
  clear y6 o6 B6 r6 y7 o7 B7
  go_wp2_with fail
  refine bodyPost_ret (v := .agg #[.int .i64 ((m : Nat)), .int .i64 ((m : Nat)), .slice R5 n5 c5, .slice O5 m d5]) (by simp [results, Try.results120, go_sem, e0, e1, e2, e3]) rfl ⟨_, rfl, ?_, HY.out.2⟩
  exact HY.out.1.mono (by have := HS1.out; omega)

set_option maxRecDepth 100000 in
set_option maxHeartbeats 2000000 in
theorem gdKind5_any (x : Int) (RC : Ci) (rb : Bool) (w : World) (hm : m_Kind 5 x = (RC, rb)) :
    Calls Try.prog 48 #[.int .i64 5, .int .i64 x] w fun e w' => ∃ u, e = .returned (.tuple #[u, .bool rb]) ∧ OwnC w' w.heap.size u RC ∧ Below w.heap.size w w' := by
  have r1 := Blk.new w #[.int .i64 0, .int .i64 0, .slice none 0 0, .slice none 0 0] 34
  have b1 := belowNew w (.cells #[.int .i64 0, .int .i64 0, .slice none 0 0, .slice none 0 0] 34)
  obtain ⟨w1, hw1⟩ : ∃ W, W = w.alloc (.cells #[.int .i64 0, .int .i64 0, .slice none 0 0, .slice none 0 0] 34) := ⟨_, rfl⟩
  have s1 : w1.heap.size = w.heap.size + 1 := by rw [hw1]; simp
  rw [← hw1] at r1 b1
  have HI := Lib.hid (l1In_any 5 0 6 true w1 rfl)
  rcases kind_cases (k := 5) (x := x) (by decide) with ⟨hno, hv⟩ | ⟨m, rfl, m1, m8, m5, _, hv, _⟩
  · rw [hv] at hm
    obtain ⟨rfl, rfl⟩ := Prod.mk.inj hm
    clear hm hv s1
    have r2 := r1
    have B2 := b1
    have hf : (decide (1 ≤ x) && decide (x ≤ 8)) = false := by simpa [kindOk] using hno
    have HW := Lib.hid (gdWidth_any x false w1 hf)
    clear hf hno r1 b1
    go_enter Try.func48, Try.ntmps48
    go_wp2_with fail
    rw [← hw1]
    clear hw1
    refine (HW.out).mono ?_
    rintro e w3 ⟨rfl, rfl⟩
    have f0 := r2.free 0
    have f1 := r2.free 1
    have f2 := r2.free 2
    have f3 := r2.free 3
    obtain ⟨z0, z1, z2, z3⟩ := r2.four
    obtain ⟨y7, o7, B7⟩ := fourSet (a := .int .i64 0) (b := .int .i64 0) (c := .slice none 0 0) (d := .slice none 0 0) (zeroOwnZ w1 (w.heap.size + 1)) r2 (Nat.lt_succ_self _) B2 (Nat.le_refl _)
    obtain ⟨e0, e1, e2, e3⟩ := y7.four
    have HY := Lib.hid (And.intro o7 B7)
    clear r2 B2 y7 o7 B7
    go_wp2_with fail
    refine bodyPost_ret (v := .tuple #[.agg #[.int .i64 0, .int .i64 0, .slice none 0 0, .slice none 0 0], .bool false]) (by simp [results, Try.results48, go_sem, e0, e1, e2, e3]) rfl ⟨_, rfl, HY.out.1.mono (Nat.le_succ _), HY.out.2⟩
  · rw [hv] at hm
    obtain ⟨rfl, rfl⟩ := Prod.mk.inj hm
    have hf : (decide (1 ≤ (m : Int)) && decide ((m : Int) ≤ 8)) = true := by simp; omega
    have HW := Lib.hid (gdWidth_any (m : Int) true w1 hf)
    have HC := Lib.hid (gdMake5_any m m1 m8 w1)
    have HS1 := Lib.hid s1
    clear hm hv hf s1 m5
    go_enter Try.func48, Try.ntmps48
    go_wp2_with fail
    rw [← hw1]
    clear hw1
    refine (HW.out).mono ?_
    rintro e w3 ⟨rfl, rfl⟩
    go_wp2_with fail
    refine (HI.out).mono ?_
    rintro e w3 ⟨rfl, rfl⟩
    go_wp2_with fail
    refine (HC.out).mono ?_
    rintro e w6 ⟨u, rfl, o6, b6⟩
    have r6 := r1.below' b6
    have B6 := b1.trans (b6.mono b1.size)
    obtain ⟨G, n, c, O, p, d, rfl, hG, hO⟩ := id o6
    obtain ⟨z0, z1, z2, z3⟩ := r6.four
    have f0 := r6.free 0
    have f1 := r6.free 1
    have f2 := r6.free 2
    have f3 := r6.free 3
    have lt6 : w.heap.size < w1.heap.size + 1 := by have := HS1.out; omega
    obtain ⟨y7, o7, B7⟩ := fourSet (a := .int .i64 (kindC 5 m).in0) (b := .int .i64 (kindC 5 m).in1) (c := .slice G n c) (d := .slice O p d) o6 r6 lt6 B6 (Nat.le_refl _)
    obtain ⟨e0, e1, e2, e3⟩ := y7.four
    have HY := Lib.hid (And.intro o7 B7)
    clear r1 b1 b6 r6 o6 B6 hG hO y7 o7 B7 lt6
    go_wp2_with fail
    refine bodyPost_ret (v := .tuple #[.agg #[.int .i64 (kindC 5 m).in0, .int .i64 (kindC 5 m).in1, .slice G n c, .slice O p d], .bool true]) (by simp [results, Try.results48, go_sem, e0, e1, e2, e3]) rfl ⟨_, rfl, ?_, HY.out.2⟩
    exact HY.out.1.mono (by have := HS1.out; omega)

end Go.Proofs.Ytnelcbjegbchkaa
