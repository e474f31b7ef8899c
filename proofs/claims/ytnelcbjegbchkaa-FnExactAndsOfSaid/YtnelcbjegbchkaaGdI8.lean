/- The program's ChooseCircuit. For every width. -/
import Derived.Test.YtnelcbjegbchkaaGdI4
import Derived.Test.YtnelcbjegbchkaaGdI7
namespace Go.Proofs.Ytnelcbjegbchkaa
open Go Go.RowKit
set_option maxRecDepth 100000

theorem rangeL_take (x : Int) {m p : Nat} (h : m ≤ p) : (rangeL x p).take m = rangeL x m := by
  apply List.ext_getElem
  · simp [rangeL, mapTo]; omega
  · intro i h1 h2
    simp [rangeL, mapTo]

theorem rangeL_drop (x : Int) (m k : Nat) : (rangeL x (m + k)).drop m = rangeL (x + (m : Int)) k := by
  apply List.ext_getElem
  · simp [rangeL, mapTo]
  · intro i h1 h2
    simp [rangeL, mapTo]
    omega

set_option maxRecDepth 100000 in
set_option maxHeartbeats 2000000 in
theorem chooseLit_any (m p bx g : Nat) (m1 : 1 ≤ m) (m8 : m ≤ 8) (hp : p = m + m) (us : List Int) (A2 : Option Addr) (vs : List Int) (q B N0 N1 : Nat) (R : Option Addr) (n c : Nat) (G : List Ga) (w : World) (hM : Mk w 85 q B N0 N1 R n c G) (h0 : N0 ≤ 1000) (h1 : N1 ≤ 1000) (hn : n ≤ 800000) (hA : HasI w (some ⟨g, 0, none⟩) p us) (hB : HasI w A2 1 vs) (hbx : Blk w bx #[.int .i64 (m : Int)] 3) :
    Calls Try.prog 127 #[.pointer (some ⟨q, 0, none⟩), .slice (some ⟨g, 0, none⟩) p p, .slice A2 1 1, .pointer (some ⟨bx, 0, none⟩)] w fun e w' => ∃ (R' : Option Addr) (n' c' : Nat) (O : Option Addr) (G' : List Ga) (os : List Int), e = .returned (.slice O m m) ∧ Hid (eachTo (pickStep (N0 + N1) (vs.getD 0 0) (us.take m) (us.drop m)) G m = (G', os)) ∧ Own w' w.heap.size O m m os ∧ Mk w' 85 q B N0 N1 R' n' c' G' ∧ MkTo q w (blockOf R) w' (blockOf R') := by
  obtain ⟨bd, s, rfl, hcs, HV⟩ := hB.1.elem (k := 0) (by omega)
  have hcs0 : w.cell? bd = some (.int .i64 s) := by simpa [Addr.add] using hcs
  have cx := hbx.cell (i := 0) rfl
  have HK : Hid (∀ (R' : Option Addr) (w' : World), MkTo q w (blockOf R) w' (blockOf R') → w'.cell? bd = some (.int .i64 s) ∧ w'.cell? ⟨bx, 0, none⟩ = some (.int .i64 (m : Int))) := fun R' w' hT => by
    obtain ⟨_, e1, _, g1⟩ := (hB.mk hT hM).1.2 (by omega)
    injection e1 with e1
    subst e1
    have g2 := g1 0 (by omega)
    refine ⟨by rw [HV.out]; simpa [Addr.add] using g2, (hbx.mk hT hM (fun e => hM.notInt e.symm) (by decide)).cell (i := 0) rfl⟩
  have hx : HasI w.drew (some ⟨g, 0, none⟩) m (us.take m) := (show HasI w.drew (some ⟨g, 0, none⟩) p us from hA).take (by omega)
  have hy : HasI w.drew (some ⟨g, m, none⟩) (p - m) (us.drop m) := by
    have := (show HasI w.drew (some ⟨g, 0, none⟩) p us from hA).drop (k := m) (by omega)
    rwa [addNone' g m] at this
  have HC := Lib.hid (gmChoose_any s (some ⟨g, 0, none⟩) m p (us.take m) (some ⟨g, m, none⟩) (p - m) (p - m) (us.drop m) q B N0 N1 R n c G w.drew hM.drew h0 h1 (by omega) hx hy (by omega) (by omega))
  have T0 : MkTo q w (blockOf R) w.drew (blockOf R) := (MkTo.refl q w _).drew
  have q0 : (0 : Int) ≤ (m : Int) := by omega
  have q1 : (m : Int) ≤ (p : Int) := by omega
  have q2 : ¬ m = p := by omega
  have q3 : m ≤ p := by omega
  have q4 : m < p := by omega
  clear hcs hx hy hA hB hM hbx hp
  go_enter Try.func127, Try.ntmps127
  go_wp2_with fail
  first | (go_region_held3 (fun w' => w'.cell? bd = some (.int .i64 s) ∧ w'.cell? ⟨bx, 0, none⟩ = some (.int .i64 (m : Int))) (first | exact HK.out _ _ T0 | exact HK.out _ _ T1 | go_keep) (first | (refine call_eq (args1 := #[.pointer (some ⟨q, 0, none⟩), .int .i64 s, .slice (some ⟨g, 0, none⟩) m p, .slice (some ⟨g, m, none⟩) (p - m) (p - m)]) (w1 := w.drew) (by simp <;> omega) rfl ?_; refine Calls.mono HC.out ?_; rintro e w1 ⟨R1, n1, c1, O1, G1, os1, rfl, hs1, o1, M1, t1⟩; have T1 := T0.trans t1))) | fail
  go_wp2_with fail
  go_ret
  refine ⟨R1, n1, c1, O1, G1, os1, rfl, ?_, o1, M1, T1⟩
  show _ = _
  rw [← HV.out]
  exact hs1.out

set_option maxRecDepth 100000 in
set_option maxHeartbeats 2000000 in
theorem gadgetChoose_any (m p bx : Nat) (m1 : 1 ≤ m) (m8 : m ≤ 8) (hp : p = m + m) (w : World) (bx0 : Blk w bx #[.int .i64 (m : Int)] 3) :
    Calls Try.prog 126 #[.int .i64 (p : Int), .int .i64 1, .func (.func 127) #[] #[.pointer (some ⟨bx, 0, none⟩)]] w fun e w' => ∃ u, e = .returned u ∧ OwnC w' w.heap.size u (kindC 4 m) ∧ Below w.heap.size w w' := by
  have HP := Lib.hid hp
  have pa : p ≤ m + m := by omega
  have pb : m + m ≤ p := by omega
  clear hp
  have r1 := Blk.new w #[.int .i64 0, .int .i64 0, .slice none 0 0, .slice none 0 0] 34
  have b1 := belowNew w (.cells #[.int .i64 0, .int .i64 0, .slice none 0 0, .slice none 0 0] 34)
  obtain ⟨w1, hw1⟩ : ∃ W, W = w.alloc (.cells #[.int .i64 0, .int .i64 0, .slice none 0 0, .slice none 0 0] 34) := ⟨_, rfl⟩
  have s1 : w1.heap.size = w.heap.size + 1 := by rw [hw1]; simp
  rw [← hw1] at r1 b1
  have bx1 := bx0.below' b1
  have y3 := Blk.new w1 #[.int .i64 (p : Int), .int .i64 1, .slice none 0 0, .slice none 0 0] 85
  have b3 := belowNew w1 (.cells #[.int .i64 (p : Int), .int .i64 1, .slice none 0 0, .slice none 0 0] 85)
  obtain ⟨w3, hw3⟩ : ∃ W, W = w1.alloc (.cells #[.int .i64 (p : Int), .int .i64 1, .slice none 0 0, .slice none 0 0] 85) := ⟨_, rfl⟩
  rw [← hw3] at y3 b3
  have bx3 := bx1.below' b3
  have r3 := r1.below' b3
  have B3 := b1.trans (b3.mono b1.size)
  have M3 : Mk w3 85 w1.heap.size (w.heap.size + 1) p 1 none 0 0 [] := ⟨y3, OwnG.nil_ _ _, by omega, (fun ad e => by cases e), by decide, by decide⟩
  have HS1 := Lib.hid s1
  have l1 : w.heap.size < w1.heap.size := by omega
  clear s1 r1 b1 b3 y3
  go_enter Try.func126, Try.ntmps126
  go_upto_region 1 with fail
  rw [← hw1]
  clear hw1
  go_upto_region 2 with fail
  rw [← hw3]
  clear hw3
  go_wp2_with fail
  refine call_eq (args1 := #[.int .i64 0, .int .i64 ((p : Nat) : Int)]) (w1 := w3) (by simp) rfl (Calls.mono (wiresFrom_any 0 p w3 (by omega) (by omega) (by omega)) ?_)
  rintro e w4 ⟨A, rfl, o4, b4⟩
  have r4 := r3.below' b4
  have B4 := B3.trans (b4.mono B3.size)
  have M4 := M3.below b4
  have bx4 := bx3.below' b4
  have ha4 := o4
  clear r3 B3 M3 o4
  go_wp2_with fail
  refine call_eq (args1 := #[.int .i64 (p : Int), .int .i64 ((1 : Nat) : Int)]) (w1 := w4) (by simp) rfl (Calls.mono (wiresFrom_any (p : Int) 1 w4 (by omega) (by omega) (by omega)) ?_)
  rintro e w5 ⟨A2, rfl, o5, b5⟩
  have r5 := r4.below' b5
  have B5 := B4.trans (b5.mono B4.size)
  have M5 := M4.below b5
  have bx5 := bx4.below' b5
  have ha5 := ha4.below b5
  have hb5 := o5
  clear r4 B4 M4 b4 b5 o5 ha4
  obtain ⟨g, rfl⟩ := ha5.spot (by omega)
  go_wp2_with fail
  refine (chooseLit_any m p bx g m1 m8 HP.out (rangeL 0 p) A2 (rangeL (p : Int) 1) w1.heap.size (w.heap.size + 1) p 1 none 0 0 [] w5 M5 (by omega) (by omega) (by omega) ha5.hasI hb5.hasI bx5).mono ?_
  rintro e w6 ⟨R6, n6, c6, O6, G6, os6, rfl, hs6, o6, M6, t6⟩
  have r6 := r5.mk t6 M5 (by decide) (by decide)
  have B6 : Below w.heap.size w w6 := B5.trans (t6.below M5 (by omega))
  have hq : w1.heap.size ≠ w.heap.size := by omega
  have l6 : w.heap.size + 1 ≤ w5.heap.size := by have := M5.lt; omega
  obtain ⟨y7, o7, B7⟩ := M6.done (o6.mono l6) (Nat.le_succ _) B6
  have f7 := M6.blk.free 3
  have x7 := M6.blk.cell (i := 3) rfl
  have r7 := r6.other hq 3 (.slice O6 m m)
  obtain ⟨w7, hw7⟩ : ∃ W, W = w6.setCell ⟨w1.heap.size, 3, none⟩ (.slice O6 m m) := ⟨_, rfl⟩
  rw [← hw7] at y7 o7 B7 r7
  rw [show ((1 : Nat) : Int) = 1 from rfl] at y7 o7
  clear r5 B5 M5 ha5 hb5 t6 r6 M6 o6 B6 bx0 bx1 bx3 bx4 bx5
  go_upto_region 3 with fail
  rw [← hw7]
  clear hw7 f7 x7
  obtain ⟨k0, k1, k2, k3⟩ := y7.four
  obtain ⟨z0, z1, z2, z3⟩ := r7.four
  have f0 := r7.free 0
  have f1 := r7.free 1
  have f2 := r7.free 2
  have f3 := r7.free 3
  obtain ⟨y8, o8, B8⟩ := fourSet (a := .int .i64 (p : Int)) (b := .int .i64 1) (c := .slice R6 n6 c6) (d := .slice O6 m m) o7 r7 (Nat.lt_succ_self _) B7 (Nat.le_refl _)
  obtain ⟨e0, e1, e2, e3⟩ := y8.four
  have HK : Hid ((⟨(p : Int), 1, G6, os6⟩ : Ci) = (kindC 4 m)) := by 
    have h := hs6.out
    have hp := HP.out
    rw [rangeL_take 0 (by omega : m ≤ p), hp, rangeL_drop 0 m m] at h
    subst hp
    have e9 : (rangeL ((m + m : Nat) : Int) 1).getD 0 0 = ((m + m : Nat) : Int) := by simp [rangeL, mapTo]
    rw [e9] at h
    show _ = _
    simp only [kindC, kindG, Nat.two_mul]
    simp only [Int.zero_add] at h
    rw [h]
    simp
  rw [HK.out] at o8
  have HY := Lib.hid (And.intro o8 B8)
  clear y7 o7 B7 r7 y8 o8 B8
  go_wp2_with fail
  refine bodyPost_ret (v := .agg #[.int .i64 (p : Int), .int .i64 1, .slice R6 n6 c6, .slice O6 m m]) (by simp [results, Try.results126, go_sem, e0, e1, e2, e3]) rfl ⟨_, rfl, ?_, HY.out.2⟩
  exact HY.out.1.mono (Nat.le_succ _)

set_option maxRecDepth 100000 in
set_option maxHeartbeats 2000000 in
theorem impl_ChooseCircuit (x : Int) (RC : Ci) (rb : Bool) (w : World) (_hx : I64 x) (hm : m_Kind 4 x = (RC, rb)) :
    Calls Try.prog 54 #[.int .i64 x] w fun e w' => ∃ u, e = .returned (.tuple #[u, .bool rb]) ∧ OwnC w' w.heap.size u RC ∧ RC.gs.length ≤ 1048576 ∧ RC.os.length ≤ 1048576 ∧ Below w.heap.size w w' := by
  have HSz := Lib.hid (kind_small (by decide) hm)
  have y1 := Blk.new w #[.int .i64 x] 3
  have b1 := belowNew w (.cells #[.int .i64 x] 3)
  obtain ⟨w0, hw0⟩ : ∃ W, W = w.alloc (.cells #[.int .i64 x] 3) := ⟨_, rfl⟩
  have s0 : w0.heap.size = w.heap.size + 1 := by rw [hw0]; simp
  rw [← hw0] at y1 b1
  have r1 := Blk.newAt (k := w.heap.size + 1) w0 #[.int .i64 0, .int .i64 0, .slice none 0 0, .slice none 0 0] 34 s0.symm
  have b2 := belowNew w0 (.cells #[.int .i64 0, .int .i64 0, .slice none 0 0, .slice none 0 0] 34)
  obtain ⟨w1, hw1⟩ : ∃ W, W = w0.alloc (.cells #[.int .i64 0, .int .i64 0, .slice none 0 0, .slice none 0 0] 34) := ⟨_, rfl⟩
  have s1 : w1.heap.size = w.heap.size + 1 + 1 := by rw [hw1]; simp; omega
  rw [← hw1] at r1 b2
  have y2 := y1.below' b2
  have B2 := b1.trans (b2.mono b1.size)
  have cx := y2.cell (i := 0) rfl
  rcases kind_cases (k := 4) (x := x) (by decide) with ⟨hno, hv⟩ | ⟨m, rfl, m1, m8, _, _, hv, _⟩
  · rw [hv] at hm
    obtain ⟨rfl, rfl⟩ := Prod.mk.inj hm
    clear hm hv s1 y1 b1 b2 s0
    have hx : x < 1 ∨ ¬ x < 1 ∧ 8 < x := by simp [kindOk] at hno; omega
    have f0 := r1.free 0
    have f1 := r1.free 1
    have f2 := r1.free 2
    have f3 := r1.free 3
    obtain ⟨z0, z1, z2, z3⟩ := r1.four
    obtain ⟨y7, o7, B7⟩ := fourSet (a := .int .i64 0) (b := .int .i64 0) (c := .slice none 0 0) (d := .slice none 0 0) (zeroOwnZ w1 (w.heap.size + 1 + 1)) r1 (Nat.lt_succ_self _) B2 (by omega)
    obtain ⟨e0, e1, e2, e3⟩ := y7.four
    have HY := Lib.hid (And.intro o7 B7)
    clear r1 B2 y7 o7 B7
    clear hno y2
    rcases hx with hx | ⟨hx, hx2⟩
    all_goals
      go_enter Try.func54, Try.ntmps54
      go_upto_region 1 with fail
      rw [← hw0, ← hw1]
      clear hw0 hw1
      go_wp2_with fail
      refine bodyPost_ret (v := .tuple #[.agg #[.int .i64 0, .int .i64 0, .slice none 0 0, .slice none 0 0], .bool false]) (by simp [results, Try.results54, go_sem, e0, e1, e2, e3]) rfl ⟨_, rfl, HY.out.1.mono (by omega), HSz.out.1, HSz.out.2, HY.out.2⟩
  · rw [hv] at hm
    obtain ⟨rfl, rfl⟩ := Prod.mk.inj hm
    obtain ⟨p, hp⟩ : ∃ p : Nat, p = m + m := ⟨_, rfl⟩
    have HC := Lib.hid (gadgetChoose_any m p w.heap.size m1 m8 hp w1 y2)
    have hwp : IntKind.i64.wrap (2 * (m : Int)) = (p : Int) := by rw [wrapIn (by omega) (by omega)]; omega
    have HS1 := Lib.hid s1
    have c1 : ¬ (m : Int) < 1 := by omega
    have c2 : ¬ 8 < (m : Int) := by omega
    clear hm hv s1 y1 b1 b2 s0 hp y2
    go_enter Try.func54, Try.ntmps54
    go_upto_region 1 with fail
    rw [← hw0, ← hw1]
    clear hw0 hw1
    go_wp2_with fail
    refine (HC.out).mono ?_
    rintro e w6 ⟨u, rfl, o6, b6⟩
    have r6 := r1.below' b6
    have B6 := B2.trans (b6.mono B2.size)
    have hS1 := HS1.out
    clear r1 B2 b6
    obtain ⟨Gx, nx, cx, Ox, px, dx, rfl, hG, hO⟩ := id o6
    obtain ⟨z0, z1, z2, z3⟩ := r6.four
    have f0 := r6.free 0
    have f1 := r6.free 1
    have f2 := r6.free 2
    have f3 := r6.free 3
    have lt6 : w.heap.size + 1 < w1.heap.size := by omega
    obtain ⟨y7, o7, B7⟩ := fourSet (a := .int .i64 (kindC 4 m).in0) (b := .int .i64 (kindC 4 m).in1) (c := .slice Gx nx cx) (d := .slice Ox px dx) o6 r6 lt6 B6 (by omega)
    obtain ⟨e0, e1, e2, e3⟩ := y7.four
    have HY := Lib.hid (And.intro o7 B7)
    clear r6 o6 B6 hG hO y7 o7 B7
    go_wp2_with fail
    refine bodyPost_ret (v := .tuple #[.agg #[.int .i64 (kindC 4 m).in0, .int .i64 (kindC 4 m).in1, .slice Gx nx cx, .slice Ox px dx], .bool true]) (by simp [results, Try.results54, go_sem, e0, e1, e2, e3]) rfl ⟨_, rfl, HY.out.1.mono (by omega), HSz.out.1, HSz.out.2, HY.out.2⟩

end Go.Proofs.Ytnelcbjegbchkaa
