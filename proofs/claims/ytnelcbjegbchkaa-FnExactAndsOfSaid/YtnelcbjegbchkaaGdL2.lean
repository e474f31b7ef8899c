/- LessCircuit, the model's side. For every width. -/
import Derived.Test.YtnelcbjegbchkaaGdL1
import Derived.Test.YtnelcbjegbchkaaGdG3
import Derived.Test.YtnelcbjegbchkaaGdG5
namespace Go.Proofs.Ytnelcbjegbchkaa
open Go Go.RowKit
set_option maxRecDepth 100000

set_option maxRecDepth 100000 in
set_option maxHeartbeats 2000000 in
theorem gdMake2_any (m : Nat) (m1 : 1 ≤ m) (m8 : m ≤ 8) (w : World) :
    Calls Try.prog 120 #[.int .i64 2, .int .i64 (m : Int)] w fun e w' => ∃ u, e = .returned u ∧ OwnC2 w' (w.heap.size + 1) u (kindC 2 m) ∧ Below w.heap.size w w' := by
  have r1 := Blk.new w #[.int .i64 0, .int .i64 0, .slice none 0 0, .slice none 0 0] 34
  have b1 := belowNew w (.cells #[.int .i64 0, .int .i64 0, .slice none 0 0, .slice none 0 0] 34)
  obtain ⟨w1, hw1⟩ : ∃ W, W = w.alloc (.cells #[.int .i64 0, .int .i64 0, .slice none 0 0, .slice none 0 0] 34) := ⟨_, rfl⟩
  have s1 : w1.heap.size = w.heap.size + 1 := by rw [hw1]; simp
  rw [← hw1] at r1 b1
  have HS1 := Lib.hid s1
  have l1 : w.heap.size < w1.heap.size := by omega
  clear s1
  go_enter Try.func120, Try.ntmps120
  go_wp2_with fail
  rw [← hw1]
  clear hw1
  refine (ciNew_any m m w1).mono ?_
  rintro e w2 ⟨q, rfl, M2, b2⟩
  have r2 := r1.below' b2
  have B2 := b1.trans (b2.mono b1.size)
  clear r1 b1
  go_wp2_with fail
  refine (gdRange_any 0 m w2 (by omega) (by omega) (by omega)).mono ?_
  rintro e w3 ⟨A, cA, rfl, o3, b3⟩
  have r3 := r2.below' b3
  have B3 := B2.trans (b3.mono B2.size)
  have M3 := M2.below b3
  have ha3 := o3.hasI
  clear r2 B2 M2 b3 o3
  go_wp2_with fail
  refine (gdRange_any (m : Int) m w3 (by omega) (by omega) (by omega)).mono ?_
  rintro e w4 ⟨A2, cA2, rfl, o4, b4⟩
  have r4 := r3.below' b4
  have B4 := B3.trans (b4.mono B3.size)
  have M4 := M3.below b4
  have ha4 := ha3.below b4
  have hb4 := o4.hasI
  clear r3 B3 M3 b4 o4 ha3
  go_wp2_with fail
  refine (gdSub_any q w1.heap.size m m none 0 0 [] A m cA (rangeL 0 m) A2 m cA2 (rangeL (m : Int) m) w4 M4 (by omega) (by omega) (by omega) ha4 hb4 (Nat.le_refl _) (by omega) (by omega)).mono ?_
  rintro e w5 ⟨R5, n5, c5, O5, d5, rfl, o5, M5, t5⟩
  obtain ⟨g5, rfl⟩ := o5.spot (Nat.succ_pos m)
  have hcd := o5.capLe
  have hne5 : ¬ m = d5 := by omega
  have hlt5 : m < d5 := by omega
  have i50 : (m : Int) ≤ (m : Int) + 1 := by omega
  have i51 : (m : Int) ≤ (d5 : Int) := by omega
  have r5 := r4.mk t5 M4 (by decide) (by decide)
  have B5 : Below w.heap.size w w5 := B4.trans (t5.below M4 (by omega))
  have l4 := M4.base
  have hq : q ≠ w.heap.size := by omega
  have l5 : w1.heap.size ≤ w4.heap.size := by have := M4.lt; omega
  obtain ⟨y6, o6, B6⟩ := M5.done2 (k := m) (m := 1) (o5.mono l5) (by decide) (by omega) B5
  have f5 := M5.blk.free 3
  have x5 := M5.blk.cell (i := 3) rfl
  have r6 := r5.other hq 3 (.slice (some ⟨g5, m, none⟩) 1 (d5 - m))
  obtain ⟨w6, hw6⟩ : ∃ W, W = w5.setCell ⟨q, 3, none⟩ (.slice (some ⟨g5, m, none⟩) 1 (d5 - m)) := ⟨_, rfl⟩
  rw [← hw6] at y6 o6 B6 r6
  clear r4 B4 M4 ha4 hb4 t5 r5 M5 o5 B5
  go_upto_region 19 with fail
  rw [← hw6]
  clear hw6 f5 x5
  obtain ⟨k0, k1, k2, k3⟩ := y6.four
  obtain ⟨z0, z1, z2, z3⟩ := r6.four
  have f0 := r6.free 0
  have f1 := r6.free 1
  have f2 := r6.free 2
  have f3 := r6.free 3
  obtain ⟨y7, o7, B7⟩ := fourSet2 (a := .int .i64 ((m : Nat))) (b := .int .i64 ((m : Nat))) (c := .slice R5 n5 c5) (d := .slice (some ⟨g5, m, none⟩) 1 (d5 - m)) o6 r6 (by omega) B6 (Nat.le_refl _)
  obtain ⟨e0, e1, e2, e3⟩ := y7.four
  have HY := Lib.hid (And.intro o7 B7)
  clear y6 o6 B6 r6 y7 o7 B7
  go_wp2_with fail
  refine bodyPost_ret (v := .agg #[.int .i64 ((m : Nat)), .int .i64 ((m : Nat)), .slice R5 n5 c5, .slice (some ⟨g5, m, none⟩) 1 (d5 - m)]) (by simp [results, Try.results120, go_sem, e0, e1, e2, e3]) rfl ⟨_, rfl, ?_, HY.out.2⟩
  exact HY.out.1.mono (by have := HS1.out; omega)

set_option maxRecDepth 100000 in
set_option maxHeartbeats 2000000 in
theorem gdKind2_any (x : Int) (RC : Ci) (rb : Bool) (w : World) (hm : m_Kind 2 x = (RC, rb)) :
    Calls Try.prog 48 #[.int .i64 2, .int .i64 x] w fun e w' => ∃ u, e = .returned (.tuple #[u, .bool rb]) ∧ OwnC2 w' w.heap.size u RC ∧ Below w.heap.size w w' := by
  have r1 := Blk.new w #[.int .i64 0, .int .i64 0, .slice none 0 0, .slice none 0 0] 34
  have b1 := belowNew w (.cells #[.int .i64 0, .int .i64 0, .slice none 0 0, .slice none 0 0] 34)
  obtain ⟨w1, hw1⟩ : ∃ W, W = w.alloc (.cells #[.int .i64 0, .int .i64 0, .slice none 0 0, .slice none 0 0] 34) := ⟨_, rfl⟩
  have s1 : w1.heap.size = w.heap.size + 1 := by rw [hw1]; simp
  rw [← hw1] at r1 b1
  have HI := Lib.hid (l1In_any 2 0 6 true w1 rfl)
  rcases kind_cases (k := 2) (x := x) (by decide) with ⟨hno, hv⟩ | ⟨m, rfl, m1, m8, m5, _, hv, _⟩
  · rw [hv] at hm
    obtain ⟨rfl, rfl⟩ := Prod.mk.inj hm
    clear hm hv s1
    have r2 := r1
    have B2 := b1
    have hf : (decide (1 ≤ x) && decide (x ≤ 8)) = false := by simpa [kindOk] using hno
    have HW := Lib.hid (gdWidth_any x false w1 hf)
    clear hf hno r1 b1
    go_enter Try.func48, Try.ntmps48
    go_wp2_with fail
    rw [← hw1]
    clear hw1
    refine (HW.out).mono ?_
    rintro e w3 ⟨rfl, rfl⟩
    have f0 := r2.free 0
    have f1 := r2.free 1
    have f2 := r2.free 2
    have f3 := r2.free 3
    obtain ⟨z0, z1, z2, z3⟩ := r2.four
    obtain ⟨y7, o7, B7⟩ := fourSet2 (a := .int .i64 0) (b := .int .i64 0) (c := .slice none 0 0) (d := .slice none 0 0) (zeroOwnZ w1 (w.heap.size + 1)).two r2 (Nat.lt_succ_self _) B2 (Nat.le_refl _)
    obtain ⟨e0, e1, e2, e3⟩ := y7.four
    have HY := Lib.hid (And.intro o7 B7)
    clear r2 B2 y7 o7 B7
    go_wp2_with fail
    refine bodyPost_ret (v := .tuple #[.agg #[.int .i64 0, .int .i64 0, .slice none 0 0, .slice none 0 0], .bool false]) (by simp [results, Try.results48, go_sem, e0, e1, e2, e3]) rfl ⟨_, rfl, HY.out.1.mono (Nat.le_succ _), HY.out.2⟩
  · rw [hv] at hm
    obtain ⟨rfl, rfl⟩ := Prod.mk.inj hm
    have hf : (decide (1 ≤ (m : Int)) && decide ((m : Int) ≤ 8)) = true := by simp; omega
    have HW := Lib.hid (gdWidth_any (m : Int) true w1 hf)
    have HC := Lib.hid (gdMake2_any m m1 m8 w1)
    have HS1 := Lib.hid s1
    clear hm hv hf s1 m5
    go_enter Try.func48, Try.ntmps48
    go_wp2_with fail
    rw [← hw1]
    clear hw1
    refine (HW.out).mono ?_
    rintro e w3 ⟨rfl, rfl⟩
    go_wp2_with fail
    refine (HI.out).mono ?_
    rintro e w3 ⟨rfl, rfl⟩
    go_wp2_with fail
    refine (HC.out).mono ?_
    rintro e w6 ⟨u, rfl, o6, b6⟩
    have r6 := r1.below' b6
    have B6 := b1.trans (b6.mono b1.size)
    obtain ⟨G, n, c, O, p, d, rfl, hG, hO⟩ := id o6
    obtain ⟨z0, z1, z2, z3⟩ := r6.four
    have f0 := r6.free 0
    have f1 := r6.free 1
    have f2 := r6.free 2
    have f3 := r6.free 3
    have lt6 : w.heap.size < w1.heap.size + 1 := by have := HS1.out; omega
    obtain ⟨y7, o7, B7⟩ := fourSet2 (a := .int .i64 (kindC 2 m).in0) (b := .int .i64 (kindC 2 m).in1) (c := .slice G n c) (d := .slice O p d) o6 r6 lt6 B6 (Nat.le_refl _)
    obtain ⟨e0, e1, e2, e3⟩ := y7.four
    have HY := Lib.hid (And.intro o7 B7)
    clear r1 b1 b6 r6 o6 B6 hG hO y7 o7 B7 lt6
    go_wp2_with fail
    refine bodyPost_ret (v := .tuple #[.agg #[.int .i64 (kindC 2 m).in0, .int .i64 (kindC 2 m).in1, .slice G n c, .slice O p d], .bool true]) (by simp [results, Try.results48, go_sem, e0, e1, e2, e3]) rfl ⟨_, rfl, ?_, HY.out.2⟩
    exact HY.out.1.mono (by have := HS1.out; omega)

end Go.Proofs.Ytnelcbjegbchkaa
