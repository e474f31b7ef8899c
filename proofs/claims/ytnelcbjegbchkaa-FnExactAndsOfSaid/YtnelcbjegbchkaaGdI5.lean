/- The program's gadgets, made. For widths of 1 to 8. -/
import Derived.Test.YtnelcbjegbchkaaGdI4
import Derived.Test.YtnelcbjegbchkaaGdI7
import Derived.Deep.DeepCutAuto
namespace Go.Proofs.Ytnelcbjegbchkaa
open Go Go.RowKit
set_option maxRecDepth 100000

set_option maxRecDepth 100000 in
set_option maxHeartbeats 2000000 in
theorem gadgetAdd_any (m : Nat) (m1 : 1 ≤ m) (m8 : m ≤ 8) (w : World) :
    Calls Try.prog 126 #[.int .i64 (m : Int), .int .i64 (m : Int), .func (.func 122) #[] #[]] w fun e w' => ∃ u, e = .returned u ∧ OwnC w' w.heap.size u (kindC 0 m) ∧ Below w.heap.size w w' := by
  have r1 := Blk.new w #[.int .i64 0, .int .i64 0, .slice none 0 0, .slice none 0 0] 34
  have b1 := belowNew w (.cells #[.int .i64 0, .int .i64 0, .slice none 0 0, .slice none 0 0] 34)
  obtain ⟨w1, hw1⟩ : ∃ W, W = w.alloc (.cells #[.int .i64 0, .int .i64 0, .slice none 0 0, .slice none 0 0] 34) := ⟨_, rfl⟩
  have s1 : w1.heap.size = w.heap.size + 1 := by rw [hw1]; simp
  rw [← hw1] at r1 b1
  have y3 := Blk.new w1 #[.int .i64 (m : Int), .int .i64 (m : Int), .slice none 0 0, .slice none 0 0] 85
  have b3 := belowNew w1 (.cells #[.int .i64 (m : Int), .int .i64 (m : Int), .slice none 0 0, .slice none 0 0] 85)
  obtain ⟨w3, hw3⟩ : ∃ W, W = w1.alloc (.cells #[.int .i64 (m : Int), .int .i64 (m : Int), .slice none 0 0, .slice none 0 0] 85) := ⟨_, rfl⟩
  rw [← hw3] at y3 b3
  have r3 := r1.below' b3
  have B3 := b1.trans (b3.mono b1.size)
  have M3 : Mk w3 85 w1.heap.size (w.heap.size + 1) m m none 0 0 [] := ⟨y3, OwnG.nil_ _ _, by omega, (fun ad e => by cases e), by decide, by decide⟩
  have HS1 := Lib.hid s1
  have l1 : w.heap.size < w1.heap.size := by omega
  clear s1 r1 b1 b3 y3
  go_enter Try.func126, Try.ntmps126
  go_upto_region 1 with fail
  rw [← hw1]
  clear hw1
  go_upto_region 2 with fail
  rw [← hw3]
  clear hw3
  go_wp2_with fail
  refine (wiresFrom_any 0 m w3 (by omega) (by omega) (by omega)).mono ?_
  rintro e w4 ⟨A, rfl, o4, b4⟩
  have r4 := r3.below' b4
  have B4 := B3.trans (b4.mono B3.size)
  have M4 := M3.below b4
  have ha4 := o4.hasI
  clear r3 B3 M3 b4 o4
  go_wp2_with fail
  refine (wiresFrom_any (m : Int) m w4 (by omega) (by omega) (by omega)).mono ?_
  rintro e w5 ⟨A2, rfl, o5, b5⟩
  have r5 := r4.below' b5
  have B5 := B4.trans (b5.mono B4.size)
  have M5 := M4.below b5
  have ha5 := ha4.below b5
  have hb5 := o5.hasI
  clear r4 B4 M4 b5 o5 ha4
  go_wp2_with fail
  refine (gmAdd_any w1.heap.size (w.heap.size + 1) m m none 0 0 [] A m m (rangeL 0 m) A2 m m (rangeL (m : Int) m) w5 M5 (by omega) (by omega) (by omega) ha5 hb5 (Nat.le_refl _) (by omega) (by omega)).mono ?_
  rintro e w6 ⟨R6, n6, c6, O6, d6, rfl, o6, M6, t6⟩
  have r6 := r5.mk t6 M5 (by decide) (by decide)
  have B6 : Below w.heap.size w w6 := B5.trans (t6.below M5 (by omega))
  have hq : w1.heap.size ≠ w.heap.size := by omega
  have l6 : w.heap.size + 1 ≤ w5.heap.size := by have := M5.lt; omega
  obtain ⟨y7, o7, B7⟩ := M6.done (o6.mono l6) (Nat.le_succ _) B6
  have f7 := M6.blk.free 3
  have x7 := M6.blk.cell (i := 3) rfl
  have r7 := r6.other hq 3 (.slice O6 (m + 1) d6)
  obtain ⟨w7, hw7⟩ : ∃ W, W = w6.setCell ⟨w1.heap.size, 3, none⟩ (.slice O6 (m + 1) d6) := ⟨_, rfl⟩
  rw [← hw7] at y7 o7 B7 r7
  clear r5 B5 M5 ha5 hb5 t6 r6 M6 o6 B6
  go_upto_region 3 with fail
  rw [← hw7]
  clear hw7 f7 x7
  obtain ⟨k0, k1, k2, k3⟩ := y7.four
  obtain ⟨z0, z1, z2, z3⟩ := r7.four
  have f0 := r7.free 0
  have f1 := r7.free 1
  have f2 := r7.free 2
  have f3 := r7.free 3
  obtain ⟨y8, o8, B8⟩ := fourSet (a := .int .i64 (m : Nat)) (b := .int .i64 (m : Nat)) (c := .slice R6 n6 c6) (d := .slice O6 (m + 1) d6) o7 r7 (Nat.lt_succ_self _) B7 (Nat.le_refl _)
  obtain ⟨e0, e1, e2, e3⟩ := y8.four
  have HY := Lib.hid (And.intro o8 B8)
  clear y7 o7 B7 r7 y8 o8 B8
  go_wp2_with fail
  refine bodyPost_ret (v := .agg #[.int .i64 (m : Nat), .int .i64 (m : Nat), .slice R6 n6 c6, .slice O6 (m + 1) d6]) (by simp [results, Try.results126, go_sem, e0, e1, e2, e3]) rfl ⟨_, rfl, ?_, HY.out.2⟩
  exact HY.out.1.mono (Nat.le_succ _)

set_option maxRecDepth 100000 in
set_option maxHeartbeats 2000000 in
theorem operandsAdd_any (x : Int) (RC : Ci) (rb : Bool) (w : World) (hm : m_Kind 0 x = (RC, rb)) :
    Calls Try.prog 121 #[.int .i64 x, .int .i64 8, .func (.func 122) #[] #[]] w fun e w' => ∃ u, e = .returned (.tuple #[u, .bool rb]) ∧ OwnC w' w.heap.size u RC ∧ Below w.heap.size w w' := by
  have r1 := Blk.new w #[.int .i64 0, .int .i64 0, .slice none 0 0, .slice none 0 0] 34
  have b1 := belowNew w (.cells #[.int .i64 0, .int .i64 0, .slice none 0 0, .slice none 0 0] 34)
  obtain ⟨w1, hw1⟩ : ∃ W, W = w.alloc (.cells #[.int .i64 0, .int .i64 0, .slice none 0 0, .slice none 0 0] 34) := ⟨_, rfl⟩
  have s1 : w1.heap.size = w.heap.size + 1 := by rw [hw1]; simp
  rw [← hw1] at r1 b1
  rcases kind_cases (k := 0) (x := x) (by decide) with ⟨hno, hv⟩ | ⟨m, rfl, m1, m8, m5, _, hv, _⟩
  · rw [hv] at hm
    obtain ⟨rfl, rfl⟩ := Prod.mk.inj hm
    clear hm hv s1
    have hx : x < 1 ∨ ¬ x < 1 ∧ 8 < x := by simp [kindOk] at hno; omega
    have f0 := r1.free 0
    have f1 := r1.free 1
    have f2 := r1.free 2
    have f3 := r1.free 3
    obtain ⟨z0, z1, z2, z3⟩ := r1.four
    obtain ⟨y7, o7, B7⟩ := fourSet (a := .int .i64 0) (b := .int .i64 0) (c := .slice none 0 0) (d := .slice none 0 0) (zeroOwnZ w1 (w.heap.size + 1)) r1 (Nat.lt_succ_self _) b1 (Nat.le_refl _)
    obtain ⟨e0, e1, e2, e3⟩ := y7.four
    have HY := Lib.hid (And.intro o7 B7)
    clear r1 b1 y7 o7 B7 hno
    rcases hx with hx | ⟨hx, hx2⟩
    all_goals
      go_enter Try.func121, Try.ntmps121
      go_upto_region 1 with fail
      rw [← hw1]
      clear hw1
      go_wp2_with fail
      refine bodyPost_ret (v := .tuple #[.agg #[.int .i64 0, .int .i64 0, .slice none 0 0, .slice none 0 0], .bool false]) (by simp [results, Try.results121, go_sem, e0, e1, e2, e3]) rfl ⟨_, rfl, HY.out.1.mono (Nat.le_succ _), HY.out.2⟩
  · rw [hv] at hm
    obtain ⟨rfl, rfl⟩ := Prod.mk.inj hm
    have HC := Lib.hid (gadgetAdd_any m m1 m8 w1)
    have HS1 := Lib.hid s1
    have c1 : ¬ (m : Int) < 1 := by omega
    have c2 : ¬ 8 < (m : Int) := by omega
    clear hm hv s1 m5
    go_enter Try.func121, Try.ntmps121
    go_upto_region 1 with fail
    rw [← hw1]
    clear hw1
    go_wp2_with fail
    refine (HC.out).mono ?_
    rintro e w6 ⟨u, rfl, o6, b6⟩
    have r6 := r1.below' b6
    have B6 := b1.trans (b6.mono b1.size)
    obtain ⟨G, n, c, O, p, d, rfl, hG, hO⟩ := id o6
    obtain ⟨z0, z1, z2, z3⟩ := r6.four
    have f0 := r6.free 0
    have f1 := r6.free 1
    have f2 := r6.free 2
    have f3 := r6.free 3
    have lt6 : w.heap.size < w1.heap.size := by have := HS1.out; omega
    obtain ⟨y7, o7, B7⟩ := fourSet (a := .int .i64 (kindC 0 m).in0) (b := .int .i64 (kindC 0 m).in1) (c := .slice G n c) (d := .slice O p d) o6 r6 lt6 B6 (Nat.le_refl _)
    obtain ⟨e0, e1, e2, e3⟩ := y7.four
    have HY := Lib.hid (And.intro o7 B7)
    clear r1 b1 b6 r6 o6 B6 hG hO y7 o7 B7 lt6
    go_wp2_with fail
    refine bodyPost_ret (v := .tuple #[.agg #[.int .i64 (kindC 0 m).in0, .int .i64 (kindC 0 m).in1, .slice G n c, .slice O p d], .bool true]) (by simp [results, Try.results121, go_sem, e0, e1, e2, e3]) rfl ⟨_, rfl, ?_, HY.out.2⟩
    exact HY.out.1.mono (by have := HS1.out; omega)

set_option maxHeartbeats 1000000 in
theorem impl_AdderCircuit (x : Int) (RC : Ci) (rb : Bool) (w : World) (_hx : I64 x) (hm : m_Kind 0 x = (RC, rb)) :
    Calls Try.prog 50 #[.int .i64 x] w fun e w' => ∃ u, e = .returned (.tuple #[u, .bool rb]) ∧ OwnC w' w.heap.size u RC ∧ RC.gs.length ≤ 1048576 ∧ RC.os.length ≤ 1048576 ∧ Below w.heap.size w w' := by
  have HSz := Lib.hid (kind_small (by decide) hm)
  have r1 := Blk.new w #[.int .i64 0, .int .i64 0, .slice none 0 0, .slice none 0 0] 34
  have b1 := belowNew w (.cells #[.int .i64 0, .int .i64 0, .slice none 0 0, .slice none 0 0] 34)
  obtain ⟨w1, hw1⟩ : ∃ W, W = w.alloc (.cells #[.int .i64 0, .int .i64 0, .slice none 0 0, .slice none 0 0] 34) := ⟨_, rfl⟩
  have s1 : w1.heap.size = w.heap.size + 1 := by rw [hw1]; simp
  rw [← hw1] at r1 b1
  have HC := Lib.hid (operandsAdd_any x RC rb w1 hm)
  have HS1 := Lib.hid s1
  clear s1 hm
  go_enter Try.func50, Try.ntmps50
  go_upto_region 1 with fail
  rw [← hw1]
  clear hw1
  go_wp2_with fail
  refine (HC.out).mono ?_
  rintro e w6 ⟨u, rfl, o6, b6⟩
  have r6 := r1.below' b6
  have B6 := b1.trans (b6.mono b1.size)
  obtain ⟨G, n, c, O, p, d, rfl, hG, hO⟩ := id o6
  obtain ⟨z0, z1, z2, z3⟩ := r6.four
  have f0 := r6.free 0
  have f1 := r6.free 1
  have f2 := r6.free 2
  have f3 := r6.free 3
  have lt6 : w.heap.size < w1.heap.size := by have := HS1.out; omega
  obtain ⟨y7, o7, B7⟩ := fourSet (a := .int .i64 RC.in0) (b := .int .i64 RC.in1) (c := .slice G n c) (d := .slice O p d) o6 r6 lt6 B6 (Nat.le_refl _)
  obtain ⟨e0, e1, e2, e3⟩ := y7.four
  have HY := Lib.hid (And.intro o7 B7)
  clear r1 b1 b6 r6 o6 B6 hG hO y7 o7 B7 lt6
  go_wp2_with fail
  refine bodyPost_ret (v := .tuple #[.agg #[.int .i64 RC.in0, .int .i64 RC.in1, .slice G n c, .slice O p d], .bool rb]) (by simp [results, Try.results50, go_sem, e0, e1, e2, e3]) rfl ⟨_, rfl, HY.out.1.mono (by have := HS1.out; omega), HSz.out.1, HSz.out.2, HY.out.2⟩

set_option maxRecDepth 100000 in
set_option maxHeartbeats 2000000 in
theorem gadgetSub_any (m : Nat) (m1 : 1 ≤ m) (m8 : m ≤ 8) (w : World) :
    Calls Try.prog 126 #[.int .i64 (m : Int), .int .i64 (m : Int), .func (.func 123) #[] #[]] w fun e w' => ∃ u, e = .returned u ∧ OwnC w' w.heap.size u (kindC 1 m) ∧ Below w.heap.size w w' := by
  have r1 := Blk.new w #[.int .i64 0, .int .i64 0, .slice none 0 0, .slice none 0 0] 34
  have b1 := belowNew w (.cells #[.int .i64 0, .int .i64 0, .slice none 0 0, .slice none 0 0] 34)
  obtain ⟨w1, hw1⟩ : ∃ W, W = w.alloc (.cells #[.int .i64 0, .int .i64 0, .slice none 0 0, .slice none 0 0] 34) := ⟨_, rfl⟩
  have s1 : w1.heap.size = w.heap.size + 1 := by rw [hw1]; simp
  rw [← hw1] at r1 b1
  have y3 := Blk.new w1 #[.int .i64 (m : Int), .int .i64 (m : Int), .slice none 0 0, .slice none 0 0] 85
  have b3 := belowNew w1 (.cells #[.int .i64 (m : Int), .int .i64 (m : Int), .slice none 0 0, .slice none 0 0] 85)
  obtain ⟨w3, hw3⟩ : ∃ W, W = w1.alloc (.cells #[.int .i64 (m : Int), .int .i64 (m : Int), .slice none 0 0, .slice none 0 0] 85) := ⟨_, rfl⟩
  rw [← hw3] at y3 b3
  have r3 := r1.below' b3
  have B3 := b1.trans (b3.mono b1.size)
  have M3 : Mk w3 85 w1.heap.size (w.heap.size + 1) m m none 0 0 [] := ⟨y3, OwnG.nil_ _ _, by omega, (fun ad e => by cases e), by decide, by decide⟩
  have HS1 := Lib.hid s1
  have l1 : w.heap.size < w1.heap.size := by omega
  clear s1 r1 b1 b3 y3
  go_enter Try.func126, Try.ntmps126
  go_upto_region 1 with fail
  rw [← hw1]
  clear hw1
  go_upto_region 2 with fail
  rw [← hw3]
  clear hw3
  go_wp2_with fail
  refine (wiresFrom_any 0 m w3 (by omega) (by omega) (by omega)).mono ?_
  rintro e w4 ⟨A, rfl, o4, b4⟩
  have r4 := r3.below' b4
  have B4 := B3.trans (b4.mono B3.size)
  have M4 := M3.below b4
  have ha4 := o4.hasI
  clear r3 B3 M3 b4 o4
  go_wp2_with fail
  refine (wiresFrom_any (m : Int) m w4 (by omega) (by omega) (by omega)).mono ?_
  rintro e w5 ⟨A2, rfl, o5, b5⟩
  have r5 := r4.below' b5
  have B5 := B4.trans (b5.mono B4.size)
  have M5 := M4.below b5
  have ha5 := ha4.below b5
  have hb5 := o5.hasI
  clear r4 B4 M4 b5 o5 ha4
  go_wp2_with fail
  refine (gmSub_any w1.heap.size (w.heap.size + 1) m m none 0 0 [] A m m (rangeL 0 m) A2 m m (rangeL (m : Int) m) w5 M5 (by omega) (by omega) (by omega) ha5 hb5 (Nat.le_refl _) (by omega) (by omega)).mono ?_
  rintro e w6 ⟨R6, n6, c6, O6, d6, rfl, o6, M6, t6⟩
  have r6 := r5.mk t6 M5 (by decide) (by decide)
  have B6 : Below w.heap.size w w6 := B5.trans (t6.below M5 (by omega))
  have hq : w1.heap.size ≠ w.heap.size := by omega
  have l6 : w.heap.size + 1 ≤ w5.heap.size := by have := M5.lt; omega
  obtain ⟨y7, o7, B7⟩ := M6.done (o6.mono l6) (Nat.le_succ _) B6
  have f7 := M6.blk.free 3
  have x7 := M6.blk.cell (i := 3) rfl
  have r7 := r6.other hq 3 (.slice O6 (m + 1) d6)
  obtain ⟨w7, hw7⟩ : ∃ W, W = w6.setCell ⟨w1.heap.size, 3, none⟩ (.slice O6 (m + 1) d6) := ⟨_, rfl⟩
  rw [← hw7] at y7 o7 B7 r7
  clear r5 B5 M5 ha5 hb5 t6 r6 M6 o6 B6
  go_upto_region 3 with fail
  rw [← hw7]
  clear hw7 f7 x7
  obtain ⟨k0, k1, k2, k3⟩ := y7.four
  obtain ⟨z0, z1, z2, z3⟩ := r7.four
  have f0 := r7.free 0
  have f1 := r7.free 1
  have f2 := r7.free 2
  have f3 := r7.free 3
  obtain ⟨y8, o8, B8⟩ := fourSet (a := .int .i64 (m : Nat)) (b := .int .i64 (m : Nat)) (c := .slice R6 n6 c6) (d := .slice O6 (m + 1) d6) o7 r7 (Nat.lt_succ_self _) B7 (Nat.le_refl _)
  obtain ⟨e0, e1, e2, e3⟩ := y8.four
  have HY := Lib.hid (And.intro o8 B8)
  clear y7 o7 B7 r7 y8 o8 B8
  go_wp2_with fail
  refine bodyPost_ret (v := .agg #[.int .i64 (m : Nat), .int .i64 (m : Nat), .slice R6 n6 c6, .slice O6 (m + 1) d6]) (by simp [results, Try.results126, go_sem, e0, e1, e2, e3]) rfl ⟨_, rfl, ?_, HY.out.2⟩
  exact HY.out.1.mono (Nat.le_succ _)

set_option maxRecDepth 100000 in
set_option maxHeartbeats 2000000 in
theorem operandsSub_any (x : Int) (RC : Ci) (rb : Bool) (w : World) (hm : m_Kind 1 x = (RC, rb)) :
    Calls Try.prog 121 #[.int .i64 x, .int .i64 8, .func (.func 123) #[] #[]] w fun e w' => ∃ u, e = .returned (.tuple #[u, .bool rb]) ∧ OwnC w' w.heap.size u RC ∧ Below w.heap.size w w' := by
  have r1 := Blk.new w #[.int .i64 0, .int .i64 0, .slice none 0 0, .slice none 0 0] 34
  have b1 := belowNew w (.cells #[.int .i64 0, .int .i64 0, .slice none 0 0, .slice none 0 0] 34)
  obtain ⟨w1, hw1⟩ : ∃ W, W = w.alloc (.cells #[.int .i64 0, .int .i64 0, .slice none 0 0, .slice none 0 0] 34) := ⟨_, rfl⟩
  have s1 : w1.heap.size = w.heap.size + 1 := by rw [hw1]; simp
  rw [← hw1] at r1 b1
  rcases kind_cases (k := 1) (x := x) (by decide) with ⟨hno, hv⟩ | ⟨m, rfl, m1, m8, m5, _, hv, _⟩
  · rw [hv] at hm
    obtain ⟨rfl, rfl⟩ := Prod.mk.inj hm
    clear hm hv s1
    have hx : x < 1 ∨ ¬ x < 1 ∧ 8 < x := by simp [kindOk] at hno; omega
    have f0 := r1.free 0
    have f1 := r1.free 1
    have f2 := r1.free 2
    have f3 := r1.free 3
    obtain ⟨z0, z1, z2, z3⟩ := r1.four
    obtain ⟨y7, o7, B7⟩ := fourSet (a := .int .i64 0) (b := .int .i64 0) (c := .slice none 0 0) (d := .slice none 0 0) (zeroOwnZ w1 (w.heap.size + 1)) r1 (Nat.lt_succ_self _) b1 (Nat.le_refl _)
    obtain ⟨e0, e1, e2, e3⟩ := y7.four
    have HY := Lib.hid (And.intro o7 B7)
    clear r1 b1 y7 o7 B7 hno
    rcases hx with hx | ⟨hx, hx2⟩
    all_goals
      go_enter Try.func121, Try.ntmps121
      go_upto_region 1 with fail
      rw [← hw1]
      clear hw1
      go_wp2_with fail
      refine bodyPost_ret (v := .tuple #[.agg #[.int .i64 0, .int .i64 0, .slice none 0 0, .slice none 0 0], .bool false]) (by simp [results, Try.results121, go_sem, e0, e1, e2, e3]) rfl ⟨_, rfl, HY.out.1.mono (Nat.le_succ _), HY.out.2⟩
  · rw [hv] at hm
    obtain ⟨rfl, rfl⟩ := Prod.mk.inj hm
    have HC := Lib.hid (gadgetSub_any m m1 m8 w1)
    have HS1 := Lib.hid s1
    have c1 : ¬ (m : Int) < 1 := by omega
    have c2 : ¬ 8 < (m : Int) := by omega
    clear hm hv s1 m5
    go_enter Try.func121, Try.ntmps121
    go_upto_region 1 with fail
    rw [← hw1]
    clear hw1
    go_wp2_with fail
    refine (HC.out).mono ?_
    rintro e w6 ⟨u, rfl, o6, b6⟩
    have r6 := r1.below' b6
    have B6 := b1.trans (b6.mono b1.size)
    obtain ⟨G, n, c, O, p, d, rfl, hG, hO⟩ := id o6
    obtain ⟨z0, z1, z2, z3⟩ := r6.four
    have f0 := r6.free 0
    have f1 := r6.free 1
    have f2 := r6.free 2
    have f3 := r6.free 3
    have lt6 : w.heap.size < w1.heap.size := by have := HS1.out; omega
    obtain ⟨y7, o7, B7⟩ := fourSet (a := .int .i64 (kindC 1 m).in0) (b := .int .i64 (kindC 1 m).in1) (c := .slice G n c) (d := .slice O p d) o6 r6 lt6 B6 (Nat.le_refl _)
    obtain ⟨e0, e1, e2, e3⟩ := y7.four
    have HY := Lib.hid (And.intro o7 B7)
    clear r1 b1 b6 r6 o6 B6 hG hO y7 o7 B7 lt6
    go_wp2_with fail
    refine bodyPost_ret (v := .tuple #[.agg #[.int .i64 (kindC 1 m).in0, .int .i64 (kindC 1 m).in1, .slice G n c, .slice O p d], .bool true]) (by simp [results, Try.results121, go_sem, e0, e1, e2, e3]) rfl ⟨_, rfl, ?_, HY.out.2⟩
    exact HY.out.1.mono (by have := HS1.out; omega)

set_option maxHeartbeats 1000000 in
theorem impl_SubtractCircuit (x : Int) (RC : Ci) (rb : Bool) (w : World) (_hx : I64 x) (hm : m_Kind 1 x = (RC, rb)) :
    Calls Try.prog 51 #[.int .i64 x] w fun e w' => ∃ u, e = .returned (.tuple #[u, .bool rb]) ∧ OwnC w' w.heap.size u RC ∧ RC.gs.length ≤ 1048576 ∧ RC.os.length ≤ 1048576 ∧ Below w.heap.size w w' := by
  have HSz := Lib.hid (kind_small (by decide) hm)
  have r1 := Blk.new w #[.int .i64 0, .int .i64 0, .slice none 0 0, .slice none 0 0] 34
  have b1 := belowNew w (.cells #[.int .i64 0, .int .i64 0, .slice none 0 0, .slice none 0 0] 34)
  obtain ⟨w1, hw1⟩ : ∃ W, W = w.alloc (.cells #[.int .i64 0, .int .i64 0, .slice none 0 0, .slice none 0 0] 34) := ⟨_, rfl⟩
  have s1 : w1.heap.size = w.heap.size + 1 := by rw [hw1]; simp
  rw [← hw1] at r1 b1
  have HC := Lib.hid (operandsSub_any x RC rb w1 hm)
  have HS1 := Lib.hid s1
  clear s1 hm
  go_enter Try.func51, Try.ntmps51
  go_upto_region 1 with fail
  rw [← hw1]
  clear hw1
  go_wp2_with fail
  refine (HC.out).mono ?_
  rintro e w6 ⟨u, rfl, o6, b6⟩
  have r6 := r1.below' b6
  have B6 := b1.trans (b6.mono b1.size)
  obtain ⟨G, n, c, O, p, d, rfl, hG, hO⟩ := id o6
  obtain ⟨z0, z1, z2, z3⟩ := r6.four
  have f0 := r6.free 0
  have f1 := r6.free 1
  have f2 := r6.free 2
  have f3 := r6.free 3
  have lt6 : w.heap.size < w1.heap.size := by have := HS1.out; omega
  obtain ⟨y7, o7, B7⟩ := fourSet (a := .int .i64 RC.in0) (b := .int .i64 RC.in1) (c := .slice G n c) (d := .slice O p d) o6 r6 lt6 B6 (Nat.le_refl _)
  obtain ⟨e0, e1, e2, e3⟩ := y7.four
  have HY := Lib.hid (And.intro o7 B7)
  clear r1 b1 b6 r6 o6 B6 hG hO y7 o7 B7 lt6
  go_wp2_with fail
  refine bodyPost_ret (v := .tuple #[.agg #[.int .i64 RC.in0, .int .i64 RC.in1, .slice G n c, .slice O p d], .bool rb]) (by simp [results, Try.results51, go_sem, e0, e1, e2, e3]) rfl ⟨_, rfl, HY.out.1.mono (by have := HS1.out; omega), HSz.out.1, HSz.out.2, HY.out.2⟩

set_option maxRecDepth 100000 in
set_option maxHeartbeats 2000000 in
theorem gadgetEqual_any (m : Nat) (m1 : 1 ≤ m) (m8 : m ≤ 8) (w : World) :
    Calls Try.prog 126 #[.int .i64 (m : Int), .int .i64 (m : Int), .func (.func 125) #[] #[]] w fun e w' => ∃ u, e = .returned u ∧ OwnC w' w.heap.size u (kindC 3 m) ∧ Below w.heap.size w w' := by
  have r1 := Blk.new w #[.int .i64 0, .int .i64 0, .slice none 0 0, .slice none 0 0] 34
  have b1 := belowNew w (.cells #[.int .i64 0, .int .i64 0, .slice none 0 0, .slice none 0 0] 34)
  obtain ⟨w1, hw1⟩ : ∃ W, W = w.alloc (.cells #[.int .i64 0, .int .i64 0, .slice none 0 0, .slice none 0 0] 34) := ⟨_, rfl⟩
  have s1 : w1.heap.size = w.heap.size + 1 := by rw [hw1]; simp
  rw [← hw1] at r1 b1
  have y3 := Blk.new w1 #[.int .i64 (m : Int), .int .i64 (m : Int), .slice none 0 0, .slice none 0 0] 85
  have b3 := belowNew w1 (.cells #[.int .i64 (m : Int), .int .i64 (m : Int), .slice none 0 0, .slice none 0 0] 85)
  obtain ⟨w3, hw3⟩ : ∃ W, W = w1.alloc (.cells #[.int .i64 (m : Int), .int .i64 (m : Int), .slice none 0 0, .slice none 0 0] 85) := ⟨_, rfl⟩
  rw [← hw3] at y3 b3
  have r3 := r1.below' b3
  have B3 := b1.trans (b3.mono b1.size)
  have M3 : Mk w3 85 w1.heap.size (w.heap.size + 1) m m none 0 0 [] := ⟨y3, OwnG.nil_ _ _, by omega, (fun ad e => by cases e), by decide, by decide⟩
  have HS1 := Lib.hid s1
  have l1 : w.heap.size < w1.heap.size := by omega
  clear s1 r1 b1 b3 y3
  go_enter Try.func126, Try.ntmps126
  go_upto_region 1 with fail
  rw [← hw1]
  clear hw1
  go_upto_region 2 with fail
  rw [← hw3]
  clear hw3
  go_wp2_with fail
  refine (wiresFrom_any 0 m w3 (by omega) (by omega) (by omega)).mono ?_
  rintro e w4 ⟨A, rfl, o4, b4⟩
  have r4 := r3.below' b4
  have B4 := B3.trans (b4.mono B3.size)
  have M4 := M3.below b4
  have ha4 := o4.hasI
  clear r3 B3 M3 b4 o4
  go_wp2_with fail
  refine (wiresFrom_any (m : Int) m w4 (by omega) (by omega) (by omega)).mono ?_
  rintro e w5 ⟨A2, rfl, o5, b5⟩
  have r5 := r4.below' b5
  have B5 := B4.trans (b5.mono B4.size)
  have M5 := M4.below b5
  have ha5 := ha4.below b5
  have hb5 := o5.hasI
  clear r4 B4 M4 b5 o5 ha4
  go_wp2_with fail
  refine (gmEqual_any w1.heap.size (w.heap.size + 1) m m none 0 0 [] A m m (rangeL 0 m) A2 m m (rangeL (m : Int) m) w5 M5 (by omega) (by omega) (by omega) ha5 hb5 (Nat.le_refl _) (by omega) (by omega) (by omega)).mono ?_
  rintro e w6 ⟨R6, n6, c6, O6, d6, G6, z6, rfl, hs6, o6, M6, t6⟩
  have r6 := r5.mk t6 M5 (by decide) (by decide)
  have B6 : Below w.heap.size w w6 := B5.trans (t6.below M5 (by omega))
  have hq : w1.heap.size ≠ w.heap.size := by omega
  have l6 : w.heap.size + 1 ≤ w5.heap.size := by have := M5.lt; omega
  obtain ⟨y7, o7, B7⟩ := M6.done (o6.mono l6) (Nat.le_succ _) B6
  have f7 := M6.blk.free 3
  have x7 := M6.blk.cell (i := 3) rfl
  have r7 := r6.other hq 3 (.slice O6 1 d6)
  obtain ⟨w7, hw7⟩ : ∃ W, W = w6.setCell ⟨w1.heap.size, 3, none⟩ (.slice O6 1 d6) := ⟨_, rfl⟩
  rw [← hw7] at y7 o7 B7 r7
  clear r5 B5 M5 ha5 hb5 t6 r6 M6 o6 B6
  go_upto_region 3 with fail
  rw [← hw7]
  clear hw7 f7 x7
  obtain ⟨k0, k1, k2, k3⟩ := y7.four
  obtain ⟨z0, z1, z2, z3⟩ := r7.four
  have f0 := r7.free 0
  have f1 := r7.free 1
  have f2 := r7.free 2
  have f3 := r7.free 3
  obtain ⟨y8, o8, B8⟩ := fourSet (a := .int .i64 (m : Nat)) (b := .int .i64 (m : Nat)) (c := .slice R6 n6 c6) (d := .slice O6 1 d6) o7 r7 (Nat.lt_succ_self _) B7 (Nat.le_refl _)
  obtain ⟨e0, e1, e2, e3⟩ := y8.four
  have HK : Hid ((⟨(m : Nat), (m : Nat), G6, [z6]⟩ : Ci) = kindC 3 m) := by show _ = _; simp only [kindC, kindG, hs6.out]; simp
  rw [HK.out] at o8
  have HY := Lib.hid (And.intro o8 B8)
  clear y7 o7 B7 r7 y8 o8 B8
  go_wp2_with fail
  refine bodyPost_ret (v := .agg #[.int .i64 (m : Nat), .int .i64 (m : Nat), .slice R6 n6 c6, .slice O6 1 d6]) (by simp [results, Try.results126, go_sem, e0, e1, e2, e3]) rfl ⟨_, rfl, ?_, HY.out.2⟩
  exact HY.out.1.mono (Nat.le_succ _)

set_option maxRecDepth 100000 in
set_option maxHeartbeats 2000000 in
theorem operandsEqual_any (x : Int) (RC : Ci) (rb : Bool) (w : World) (hm : m_Kind 3 x = (RC, rb)) :
    Calls Try.prog 121 #[.int .i64 x, .int .i64 8, .func (.func 125) #[] #[]] w fun e w' => ∃ u, e = .returned (.tuple #[u, .bool rb]) ∧ OwnC w' w.heap.size u RC ∧ Below w.heap.size w w' := by
  have r1 := Blk.new w #[.int .i64 0, .int .i64 0, .slice none 0 0, .slice none 0 0] 34
  have b1 := belowNew w (.cells #[.int .i64 0, .int .i64 0, .slice none 0 0, .slice none 0 0] 34)
  obtain ⟨w1, hw1⟩ : ∃ W, W = w.alloc (.cells #[.int .i64 0, .int .i64 0, .slice none 0 0, .slice none 0 0] 34) := ⟨_, rfl⟩
  have s1 : w1.heap.size = w.heap.size + 1 := by rw [hw1]; simp
  rw [← hw1] at r1 b1
  rcases kind_cases (k := 3) (x := x) (by decide) with ⟨hno, hv⟩ | ⟨m, rfl, m1, m8, m5, _, hv, _⟩
  · rw [hv] at hm
    obtain ⟨rfl, rfl⟩ := Prod.mk.inj hm
    clear hm hv s1
    have hx : x < 1 ∨ ¬ x < 1 ∧ 8 < x := by simp [kindOk] at hno; omega
    have f0 := r1.free 0
    have f1 := r1.free 1
    have f2 := r1.free 2
    have f3 := r1.free 3
    obtain ⟨z0, z1, z2, z3⟩ := r1.four
    obtain ⟨y7, o7, B7⟩ := fourSet (a := .int .i64 0) (b := .int .i64 0) (c := .slice none 0 0) (d := .slice none 0 0) (zeroOwnZ w1 (w.heap.size + 1)) r1 (Nat.lt_succ_self _) b1 (Nat.le_refl _)
    obtain ⟨e0, e1, e2, e3⟩ := y7.four
    have HY := Lib.hid (And.intro o7 B7)
    clear r1 b1 y7 o7 B7 hno
    rcases hx with hx | ⟨hx, hx2⟩
    all_goals
      go_enter Try.func121, Try.ntmps121
      go_upto_region 1 with fail
      rw [← hw1]
      clear hw1
      go_wp2_with fail
      refine bodyPost_ret (v := .tuple #[.agg #[.int .i64 0, .int .i64 0, .slice none 0 0, .slice none 0 0], .bool false]) (by simp [results, Try.results121, go_sem, e0, e1, e2, e3]) rfl ⟨_, rfl, HY.out.1.mono (Nat.le_succ _), HY.out.2⟩
  · rw [hv] at hm
    obtain ⟨rfl, rfl⟩ := Prod.mk.inj hm
    have HC := Lib.hid (gadgetEqual_any m m1 m8 w1)
    have HS1 := Lib.hid s1
    have c1 : ¬ (m : Int) < 1 := by omega
    have c2 : ¬ 8 < (m : Int) := by omega
    clear hm hv s1 m5
    go_enter Try.func121, Try.ntmps121
    go_upto_region 1 with fail
    rw [← hw1]
    clear hw1
    go_wp2_with fail
    refine (HC.out).mono ?_
    rintro e w6 ⟨u, rfl, o6, b6⟩
    have r6 := r1.below' b6
    have B6 := b1.trans (b6.mono b1.size)
    obtain ⟨G, n, c, O, p, d, rfl, hG, hO⟩ := id o6
    obtain ⟨z0, z1, z2, z3⟩ := r6.four
    have f0 := r6.free 0
    have f1 := r6.free 1
    have f2 := r6.free 2
    have f3 := r6.free 3
    have lt6 : w.heap.size < w1.heap.size := by have := HS1.out; omega
    obtain ⟨y7, o7, B7⟩ := fourSet (a := .int .i64 (kindC 3 m).in0) (b := .int .i64 (kindC 3 m).in1) (c := .slice G n c) (d := .slice O p d) o6 r6 lt6 B6 (Nat.le_refl _)
    obtain ⟨e0, e1, e2, e3⟩ := y7.four
    have HY := Lib.hid (And.intro o7 B7)
    clear r1 b1 b6 r6 o6 B6 hG hO y7 o7 B7 lt6
    go_wp2_with fail
    refine bodyPost_ret (v := .tuple #[.agg #[.int .i64 (kindC 3 m).in0, .int .i64 (kindC 3 m).in1, .slice G n c, .slice O p d], .bool true]) (by simp [results, Try.results121, go_sem, e0, e1, e2, e3]) rfl ⟨_, rfl, ?_, HY.out.2⟩
    exact HY.out.1.mono (by have := HS1.out; omega)

set_option maxHeartbeats 1000000 in
theorem impl_EqualCircuit (x : Int) (RC : Ci) (rb : Bool) (w : World) (_hx : I64 x) (hm : m_Kind 3 x = (RC, rb)) :
    Calls Try.prog 53 #[.int .i64 x] w fun e w' => ∃ u, e = .returned (.tuple #[u, .bool rb]) ∧ OwnC w' w.heap.size u RC ∧ RC.gs.length ≤ 1048576 ∧ RC.os.length ≤ 1048576 ∧ Below w.heap.size w w' := by
  have HSz := Lib.hid (kind_small (by decide) hm)
  have r1 := Blk.new w #[.int .i64 0, .int .i64 0, .slice none 0 0, .slice none 0 0] 34
  have b1 := belowNew w (.cells #[.int .i64 0, .int .i64 0, .slice none 0 0, .slice none 0 0] 34)
  obtain ⟨w1, hw1⟩ : ∃ W, W = w.alloc (.cells #[.int .i64 0, .int .i64 0, .slice none 0 0, .slice none 0 0] 34) := ⟨_, rfl⟩
  have s1 : w1.heap.size = w.heap.size + 1 := by rw [hw1]; simp
  rw [← hw1] at r1 b1
  have HC := Lib.hid (operandsEqual_any x RC rb w1 hm)
  have HS1 := Lib.hid s1
  clear s1 hm
  go_enter Try.func53, Try.ntmps53
  go_upto_region 1 with fail
  rw [← hw1]
  clear hw1
  go_wp2_with fail
  refine (HC.out).mono ?_
  rintro e w6 ⟨u, rfl, o6, b6⟩
  have r6 := r1.below' b6
  have B6 := b1.trans (b6.mono b1.size)
  obtain ⟨G, n, c, O, p, d, rfl, hG, hO⟩ := id o6
  obtain ⟨z0, z1, z2, z3⟩ := r6.four
  have f0 := r6.free 0
  have f1 := r6.free 1
  have f2 := r6.free 2
  have f3 := r6.free 3
  have lt6 : w.heap.size < w1.heap.size := by have := HS1.out; omega
  obtain ⟨y7, o7, B7⟩ := fourSet (a := .int .i64 RC.in0) (b := .int .i64 RC.in1) (c := .slice G n c) (d := .slice O p d) o6 r6 lt6 B6 (Nat.le_refl _)
  obtain ⟨e0, e1, e2, e3⟩ := y7.four
  have HY := Lib.hid (And.intro o7 B7)
  clear r1 b1 b6 r6 o6 B6 hG hO y7 o7 B7 lt6
  go_wp2_with fail
  refine bodyPost_ret (v := .tuple #[.agg #[.int .i64 RC.in0, .int .i64 RC.in1, .slice G n c, .slice O p d], .bool rb]) (by simp [results, Try.results53, go_sem, e0, e1, e2, e3]) rfl ⟨_, rfl, HY.out.1.mono (by have := HS1.out; omega), HSz.out.1, HSz.out.2, HY.out.2⟩

set_option maxRecDepth 100000 in
set_option maxHeartbeats 2000000 in
theorem gadgetGreatest_any (m : Nat) (m1 : 1 ≤ m) (m8 : m ≤ 8) (w : World) :
    Calls Try.prog 126 #[.int .i64 (m : Int), .int .i64 (m : Int), .func (.func 129) #[] #[]] w fun e w' => ∃ u, e = .returned u ∧ OwnC w' w.heap.size u (kindC 5 m) ∧ Below w.heap.size w w' := by
  have r1 := Blk.new w #[.int .i64 0, .int .i64 0, .slice none 0 0, .slice none 0 0] 34
  have b1 := belowNew w (.cells #[.int .i64 0, .int .i64 0, .slice none 0 0, .slice none 0 0] 34)
  obtain ⟨w1, hw1⟩ : ∃ W, W = w.alloc (.cells #[.int .i64 0, .int .i64 0, .slice none 0 0, .slice none 0 0] 34) := ⟨_, rfl⟩
  have s1 : w1.heap.size = w.heap.size + 1 := by rw [hw1]; simp
  rw [← hw1] at r1 b1
  have y3 := Blk.new w1 #[.int .i64 (m : Int), .int .i64 (m : Int), .slice none 0 0, .slice none 0 0] 85
  have b3 := belowNew w1 (.cells #[.int .i64 (m : Int), .int .i64 (m : Int), .slice none 0 0, .slice none 0 0] 85)
  obtain ⟨w3, hw3⟩ : ∃ W, W = w1.alloc (.cells #[.int .i64 (m : Int), .int .i64 (m : Int), .slice none 0 0, .slice none 0 0] 85) := ⟨_, rfl⟩
  rw [← hw3] at y3 b3
  have r3 := r1.below' b3
  have B3 := b1.trans (b3.mono b1.size)
  have M3 : Mk w3 85 w1.heap.size (w.heap.size + 1) m m none 0 0 [] := ⟨y3, OwnG.nil_ _ _, by omega, (fun ad e => by cases e), by decide, by decide⟩
  have HS1 := Lib.hid s1
  have l1 : w.heap.size < w1.heap.size := by omega
  clear s1 r1 b1 b3 y3
  go_enter Try.func126, Try.ntmps126
  go_upto_region 1 with fail
  rw [← hw1]
  clear hw1
  go_upto_region 2 with fail
  rw [← hw3]
  clear hw3
  go_wp2_with fail
  refine (wiresFrom_any 0 m w3 (by omega) (by omega) (by omega)).mono ?_
  rintro e w4 ⟨A, rfl, o4, b4⟩
  have r4 := r3.below' b4
  have B4 := B3.trans (b4.mono B3.size)
  have M4 := M3.below b4
  have ha4 := o4.hasI
  clear r3 B3 M3 b4 o4
  go_wp2_with fail
  refine (wiresFrom_any (m : Int) m w4 (by omega) (by omega) (by omega)).mono ?_
  rintro e w5 ⟨A2, rfl, o5, b5⟩
  have r5 := r4.below' b5
  have B5 := B4.trans (b5.mono B4.size)
  have M5 := M4.below b5
  have ha5 := ha4.below b5
  have hb5 := o5.hasI
  clear r4 B4 M4 b5 o5 ha4
  go_wp2_with fail
  refine (gmGreatest_any w1.heap.size (w.heap.size + 1) m m none 0 0 [] A m m (rangeL 0 m) A2 m (rangeL (m : Int) m) w5 M5 (by omega) (by omega) (by omega) ha5 hb5 (by omega) (by omega)).mono ?_
  rintro e w6 ⟨R6, n6, c6, O6, G6, os6, rfl, hs6, o6, M6, t6⟩
  have r6 := r5.mk t6 M5 (by decide) (by decide)
  have B6 : Below w.heap.size w w6 := B5.trans (t6.below M5 (by omega))
  have hq : w1.heap.size ≠ w.heap.size := by omega
  have l6 : w.heap.size + 1 ≤ w5.heap.size := by have := M5.lt; omega
  obtain ⟨y7, o7, B7⟩ := M6.done (o6.mono l6) (Nat.le_succ _) B6
  have f7 := M6.blk.free 3
  have x7 := M6.blk.cell (i := 3) rfl
  have r7 := r6.other hq 3 (.slice O6 m m)
  obtain ⟨w7, hw7⟩ : ∃ W, W = w6.setCell ⟨w1.heap.size, 3, none⟩ (.slice O6 m m) := ⟨_, rfl⟩
  rw [← hw7] at y7 o7 B7 r7
  clear r5 B5 M5 ha5 hb5 t6 r6 M6 o6 B6
  go_upto_region 3 with fail
  rw [← hw7]
  clear hw7 f7 x7
  obtain ⟨k0, k1, k2, k3⟩ := y7.four
  obtain ⟨z0, z1, z2, z3⟩ := r7.four
  have f0 := r7.free 0
  have f1 := r7.free 1
  have f2 := r7.free 2
  have f3 := r7.free 3
  obtain ⟨y8, o8, B8⟩ := fourSet (a := .int .i64 (m : Nat)) (b := .int .i64 (m : Nat)) (c := .slice R6 n6 c6) (d := .slice O6 m m) o7 r7 (Nat.lt_succ_self _) B7 (Nat.le_refl _)
  obtain ⟨e0, e1, e2, e3⟩ := y8.four
  have HK : Hid ((⟨(m : Nat), (m : Nat), G6, os6⟩ : Ci) = kindC 5 m) := by show _ = _; have h := hs6.out; simp only [kindC, kindG, h]; simp
  rw [HK.out] at o8
  have HY := Lib.hid (And.intro o8 B8)
  clear y7 o7 B7 r7 y8 o8 B8
  go_wp2_with fail
  refine bodyPost_ret (v := .agg #[.int .i64 (m : Nat), .int .i64 (m : Nat), .slice R6 n6 c6, .slice O6 m m]) (by simp [results, Try.results126, go_sem, e0, e1, e2, e3]) rfl ⟨_, rfl, ?_, HY.out.2⟩
  exact HY.out.1.mono (Nat.le_succ _)

set_option maxRecDepth 100000 in
set_option maxHeartbeats 2000000 in
theorem operandsGreatest_any (x : Int) (RC : Ci) (rb : Bool) (w : World) (hm : m_Kind 5 x = (RC, rb)) :
    Calls Try.prog 121 #[.int .i64 x, .int .i64 8, .func (.func 129) #[] #[]] w fun e w' => ∃ u, e = .returned (.tuple #[u, .bool rb]) ∧ OwnC w' w.heap.size u RC ∧ Below w.heap.size w w' := by
  have r1 := Blk.new w #[.int .i64 0, .int .i64 0, .slice none 0 0, .slice none 0 0] 34
  have b1 := belowNew w (.cells #[.int .i64 0, .int .i64 0, .slice none 0 0, .slice none 0 0] 34)
  obtain ⟨w1, hw1⟩ : ∃ W, W = w.alloc (.cells #[.int .i64 0, .int .i64 0, .slice none 0 0, .slice none 0 0] 34) := ⟨_, rfl⟩
  have s1 : w1.heap.size = w.heap.size + 1 := by rw [hw1]; simp
  rw [← hw1] at r1 b1
  rcases kind_cases (k := 5) (x := x) (by decide) with ⟨hno, hv⟩ | ⟨m, rfl, m1, m8, m5, _, hv, _⟩
  · rw [hv] at hm
    obtain ⟨rfl, rfl⟩ := Prod.mk.inj hm
    clear hm hv s1
    have hx : x < 1 ∨ ¬ x < 1 ∧ 8 < x := by simp [kindOk] at hno; omega
    have f0 := r1.free 0
    have f1 := r1.free 1
    have f2 := r1.free 2
    have f3 := r1.free 3
    obtain ⟨z0, z1, z2, z3⟩ := r1.four
    obtain ⟨y7, o7, B7⟩ := fourSet (a := .int .i64 0) (b := .int .i64 0) (c := .slice none 0 0) (d := .slice none 0 0) (zeroOwnZ w1 (w.heap.size + 1)) r1 (Nat.lt_succ_self _) b1 (Nat.le_refl _)
    obtain ⟨e0, e1, e2, e3⟩ := y7.four
    have HY := Lib.hid (And.intro o7 B7)
    clear r1 b1 y7 o7 B7 hno
    rcases hx with hx | ⟨hx, hx2⟩
    all_goals
      go_enter Try.func121, Try.ntmps121
      go_upto_region 1 with fail
      rw [← hw1]
      clear hw1
      go_wp2_with fail
      refine bodyPost_ret (v := .tuple #[.agg #[.int .i64 0, .int .i64 0, .slice none 0 0, .slice none 0 0], .bool false]) (by simp [results, Try.results121, go_sem, e0, e1, e2, e3]) rfl ⟨_, rfl, HY.out.1.mono (Nat.le_succ _), HY.out.2⟩
  · rw [hv] at hm
    obtain ⟨rfl, rfl⟩ := Prod.mk.inj hm
    have HC := Lib.hid (gadgetGreatest_any m m1 m8 w1)
    have HS1 := Lib.hid s1
    have c1 : ¬ (m : Int) < 1 := by omega
    have c2 : ¬ 8 < (m : Int) := by omega
    clear hm hv s1 m5
    go_enter Try.func121, Try.ntmps121
    go_upto_region 1 with fail
    rw [← hw1]
    clear hw1
    go_wp2_with fail
    refine (HC.out).mono ?_
    rintro e w6 ⟨u, rfl, o6, b6⟩
    have r6 := r1.below' b6
    have B6 := b1.trans (b6.mono b1.size)
    obtain ⟨G, n, c, O, p, d, rfl, hG, hO⟩ := id o6
    obtain ⟨z0, z1, z2, z3⟩ := r6.four
    have f0 := r6.free 0
    have f1 := r6.free 1
    have f2 := r6.free 2
    have f3 := r6.free 3
    have lt6 : w.heap.size < w1.heap.size := by have := HS1.out; omega
    obtain ⟨y7, o7, B7⟩ := fourSet (a := .int .i64 (kindC 5 m).in0) (b := .int .i64 (kindC 5 m).in1) (c := .slice G n c) (d := .slice O p d) o6 r6 lt6 B6 (Nat.le_refl _)
    obtain ⟨e0, e1, e2, e3⟩ := y7.four
    have HY := Lib.hid (And.intro o7 B7)
    clear r1 b1 b6 r6 o6 B6 hG hO y7 o7 B7 lt6
    go_wp2_with fail
    refine bodyPost_ret (v := .tuple #[.agg #[.int .i64 (kindC 5 m).in0, .int .i64 (kindC 5 m).in1, .slice G n c, .slice O p d], .bool true]) (by simp [results, Try.results121, go_sem, e0, e1, e2, e3]) rfl ⟨_, rfl, ?_, HY.out.2⟩
    exact HY.out.1.mono (by have := HS1.out; omega)

set_option maxHeartbeats 1000000 in
theorem impl_GreatestCircuit (x : Int) (RC : Ci) (rb : Bool) (w : World) (_hx : I64 x) (hm : m_Kind 5 x = (RC, rb)) :
    Calls Try.prog 55 #[.int .i64 x] w fun e w' => ∃ u, e = .returned (.tuple #[u, .bool rb]) ∧ OwnC w' w.heap.size u RC ∧ RC.gs.length ≤ 1048576 ∧ RC.os.length ≤ 1048576 ∧ Below w.heap.size w w' := by
  have HSz := Lib.hid (kind_small (by decide) hm)
  have r1 := Blk.new w #[.int .i64 0, .int .i64 0, .slice none 0 0, .slice none 0 0] 34
  have b1 := belowNew w (.cells #[.int .i64 0, .int .i64 0, .slice none 0 0, .slice none 0 0] 34)
  obtain ⟨w1, hw1⟩ : ∃ W, W = w.alloc (.cells #[.int .i64 0, .int .i64 0, .slice none 0 0, .slice none 0 0] 34) := ⟨_, rfl⟩
  have s1 : w1.heap.size = w.heap.size + 1 := by rw [hw1]; simp
  rw [← hw1] at r1 b1
  have HC := Lib.hid (operandsGreatest_any x RC rb w1 hm)
  have HS1 := Lib.hid s1
  clear s1 hm
  go_enter Try.func55, Try.ntmps55
  go_upto_region 1 with fail
  rw [← hw1]
  clear hw1
  go_wp2_with fail
  refine (HC.out).mono ?_
  rintro e w6 ⟨u, rfl, o6, b6⟩
  have r6 := r1.below' b6
  have B6 := b1.trans (b6.mono b1.size)
  obtain ⟨G, n, c, O, p, d, rfl, hG, hO⟩ := id o6
  obtain ⟨z0, z1, z2, z3⟩ := r6.four
  have f0 := r6.free 0
  have f1 := r6.free 1
  have f2 := r6.free 2
  have f3 := r6.free 3
  have lt6 : w.heap.size < w1.heap.size := by have := HS1.out; omega
  obtain ⟨y7, o7, B7⟩ := fourSet (a := .int .i64 RC.in0) (b := .int .i64 RC.in1) (c := .slice G n c) (d := .slice O p d) o6 r6 lt6 B6 (Nat.le_refl _)
  obtain ⟨e0, e1, e2, e3⟩ := y7.four
  have HY := Lib.hid (And.intro o7 B7)
  clear r1 b1 b6 r6 o6 B6 hG hO y7 o7 B7 lt6
  go_wp2_with fail
  refine bodyPost_ret (v := .tuple #[.agg #[.int .i64 RC.in0, .int .i64 RC.in1, .slice G n c, .slice O p d], .bool rb]) (by simp [results, Try.results55, go_sem, e0, e1, e2, e3]) rfl ⟨_, rfl, HY.out.1.mono (by have := HS1.out; omega), HSz.out.1, HSz.out.2, HY.out.2⟩

end Go.Proofs.Ytnelcbjegbchkaa
