/- CountCircuit, the model's side. For every number of bits. -/
import Derived.Test.YtnmjnffnelkciaaGdC1
namespace Go.Proofs.Ytnmjnffnelkciaa
open Go Go.RowKit
set_option maxRecDepth 100000

set_option maxRecDepth 100000 in
set_option maxHeartbeats 2000000 in
theorem spec_CountCircuit (x : Int) (RC : Ci) (rb : Bool) (w : World) (_hx : I64 x) (hm : m_CountCircuit x = (RC, rb)) :
    Calls Try.prog 31 #[.int .i64 x] w fun e w' => ∃ u, e = .returned (.tuple #[u, .bool rb]) ∧ HasC w' u RC ∧ RC.gs.length ≤ 1048576 ∧ RC.os.length ≤ 1048576 ∧ Below w.heap.size w w' := by
  have HSz := Lib.hid (count_small hm)
  have r1 := Blk.new w #[.int .i64 0, .int .i64 0, .slice none 0 0, .slice none 0 0] 25
  have b1 := belowNew w (.cells #[.int .i64 0, .int .i64 0, .slice none 0 0, .slice none 0 0] 25)
  obtain ⟨w1, hw1⟩ : ∃ W, W = w.alloc (.cells #[.int .i64 0, .int .i64 0, .slice none 0 0, .slice none 0 0] 25) := ⟨_, rfl⟩
  have s1 : w1.heap.size = w.heap.size + 1 := by rw [hw1]; simp
  rw [← hw1] at r1 b1
  rcases count_cases x with ⟨hno, hv⟩ | ⟨m, rfl, m1, m16, hyes, hv⟩
  · rw [hv] at hm
    obtain ⟨rfl, rfl⟩ := Prod.mk.inj hm
    have HW := Lib.hid (l1In_any x 1 16 false w1 hno)
    clear hm hv s1 hno
    have f0 := r1.free 0
    have f1 := r1.free 1
    have f2 := r1.free 2
    have f3 := r1.free 3
    obtain ⟨z0, z1, z2, z3⟩ := r1.four
    obtain ⟨y7, o7, B7⟩ := fourSet (a := .int .i64 0) (b := .int .i64 0) (c := .slice none 0 0) (d := .slice none 0 0) (zeroOwnZ w1 (w.heap.size + 1)) r1 (Nat.lt_succ_self _) b1 (by omega)
    obtain ⟨e0, e1, e2, e3⟩ := y7.four
    have HY := Lib.hid (And.intro o7 B7)
    clear r1 b1 y7 o7 B7
    go_enter Try.func31, Try.ntmps31
    go_upto_region 1 with fail
    rw [← hw1]
    clear hw1
    go_wp2_with fail
    refine (HW.out).mono ?_
    rintro e w3 ⟨rfl, rfl⟩
    go_wp2_with fail
    refine bodyPost_ret (v := .tuple #[.agg #[.int .i64 0, .int .i64 0, .slice none 0 0, .slice none 0 0], .bool false]) (by simp [results, Try.results31, go_sem, e0, e1, e2, e3]) rfl ⟨_, rfl, HY.out.1.has, HSz.out.1, HSz.out.2, HY.out.2⟩
  · rw [hv] at hm
    obtain ⟨rfl, rfl⟩ := Prod.mk.inj hm
    have HW := Lib.hid (l1In_any (m : Int) 1 16 true w1 hyes)
    have HS1 := Lib.hid s1
    have l1 : w.heap.size < w1.heap.size := by omega
    clear hm hv s1 hyes
    go_enter Try.func31, Try.ntmps31
    go_upto_region 1 with fail
    rw [← hw1]
    clear hw1
    go_wp2_with fail
    refine (HW.out).mono ?_
    rintro e w3 ⟨rfl, rfl⟩
    go_wp2_with fail
    refine call_eq (args1 := #[.int .i64 (m : Int), .int .i64 ((0 : Nat) : Int)]) (w1 := w1) (by simp) rfl (Calls.mono (ciNew_any m 0 w1) ?_)
    rintro e w2 ⟨q, rfl, M2, b2⟩
    have r2 := r1.below' b2
    have B2 := b1.trans (b2.mono b1.size)
    clear r1 b1
    go_wp2_with fail
    refine (gdRange_any 0 m w2 (by omega) (by omega) (by omega)).mono ?_
    rintro e w3 ⟨A, cA, rfl, o3, b3⟩
    have r3 := r2.below' b3
    have B3 := B2.trans (b3.mono B2.size)
    have M3 := M2.below b3
    have s23 := b3.size
    have s12 := b2.size
    clear r2 B2 M2 b3 b2
    go_wp2_with fail
    refine (gdCount_any q w1.heap.size m 0 none 0 0 [] A m cA (rangeL 0 m) w3 M3 (by omega) (by omega) (by omega) (o3.mono (by omega)) (by omega) m16).mono ?_
    rintro e w5 ⟨R5, n5, c5, O5, p5, d5, G5, os5, rfl, hs5, o5, M5, t5⟩
    have r5 := r3.mk t5 M3 (by decide) (by decide)
    have B5 : Below w.heap.size w w5 := B3.trans (t5.below M3 (by omega))
    have l4 := M3.base
    have hq : q ≠ w.heap.size := by omega
    have l5 : w1.heap.size ≤ w3.heap.size := by omega
    obtain ⟨y6, o6, B6⟩ := M5.done (o5.mono l5) (by omega) B5
    have f5 := M5.blk.free 3
    have x5 := M5.blk.cell (i := 3) rfl
    have r6 := r5.other hq 3 (.slice O5 p5 d5)
    obtain ⟨w6, hw6⟩ : ∃ W, W = w5.setCell ⟨q, 3, none⟩ (.slice O5 p5 d5) := ⟨_, rfl⟩
    rw [← hw6] at y6 o6 B6 r6
    rw [show ((0 : Nat) : Int) = 0 from rfl] at y6 o6
    clear r3 B3 M3 t5 r5 M5 o5 B5 o3
    go_upto_region 5 with fail
    rw [← hw6]
    clear hw6 f5 x5
    obtain ⟨k0, k1, k2, k3⟩ := y6.four
    obtain ⟨z0, z1, z2, z3⟩ := r6.four
    have f0 := r6.free 0
    have f1 := r6.free 1
    have f2 := r6.free 2
    have f3 := r6.free 3
    obtain ⟨y7, o7, B7⟩ := fourSet (a := .int .i64 (m : Int)) (b := .int .i64 0) (c := .slice R5 n5 c5) (d := .slice O5 p5 d5) o6 r6 (by omega) B6 (Nat.le_refl _)
    obtain ⟨e0, e1, e2, e3⟩ := y7.four
    have HK : Hid ((⟨(m : Int), 0, G5, os5⟩ : Ci) = countC m) := by show _ = _; rw [countC, hs5.out]
    rw [HK.out] at o7
    have HY := Lib.hid (And.intro o7 B7)
    clear y6 o6 B6 r6 y7 o7 B7
    go_wp2_with fail
    refine bodyPost_ret (v := .tuple #[.agg #[.int .i64 (m : Int), .int .i64 0, .slice R5 n5 c5, .slice O5 p5 d5], .bool true]) (by simp [results, Try.results31, go_sem, e0, e1, e2, e3]) rfl ⟨_, rfl, HY.out.1.has, HSz.out.1, HSz.out.2, HY.out.2⟩

end Go.Proofs.Ytnmjnffnelkciaa
