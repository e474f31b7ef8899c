/- AndsOf, both sides. For every kind and width. -/
import Derived.Test.YtnelcbjegbchkaaGdG4
import Derived.Test.YtnelcbjegbchkaaGdL2
import Derived.Test.YtnelcbjegbchkaaGdL3
import Derived.Test.YtnelcbjegbchkaaGdT2
import Derived.Test.YtnelcbjegbchkaaGdT5
import Derived.Test.YtnelcbjegbchkaaGdI5
import Derived.Test.YtnelcbjegbchkaaGdI8
import Derived.Test.YtnelcbjegbchkaaCirG5
import Derived.Test.YtnelcbjegbchkaaCirI7
namespace Go.Proofs.Ytnelcbjegbchkaa
open Go Go.RowKit
set_option maxRecDepth 100000

def andsN (RC : Ci) (rb : Bool) : Int := if rb = true then (countsTo RC RC.gs.length).getD 1 0 else 0
def m_AndsOf (k x : Int) : Int × Bool := if 0 ≤ k ∧ k ≤ 6 then (andsN (m_Kind k.toNat x).1 (m_Kind k.toNat x).2, (m_Kind k.toNat x).2) else (0, false)
theorem kindGood2 {k : Nat} {x : Int} {RC : Ci} (hk : k < 7) (hm : m_Kind k x = (RC, true)) : gd RC = true := by
  rcases kind_cases (k := k) (x := x) hk with ⟨_, h⟩ | ⟨m, _, _, _, _, _, h, hg⟩
  · rw [h] at hm
    cases hm
  · rw [h] at hm
    obtain ⟨rfl, _⟩ := Prod.mk.inj hm
    exact hg
theorem fitOf {C : Ci} (h : Good C) : Fit C := by
  have i64 : ∀ z : Int, 0 ≤ z → z ≤ 1000 → I64 z := fun z h0 h1 => by unfold I64; omega
  have hw : C.wires ≤ 340 := by have := h.a1; have := h.b1; have := h.g; unfold Ci.wires; omega
  refine ⟨by have := h.g; omega, by have := h.o; omega, i64 _ h.a0 (by have := h.a1; omega), i64 _ h.b0 (by have := h.b1; omega), fun g hg => ?_, fun z hz => ?_⟩
  · obtain ⟨k, hk, rfl⟩ := List.getElem_of_mem hg
    have hgt := h.gate k hk
    have e : C.gs.getD k g0 = C.gs[k] := by simp [List.getD, hk]
    rw [e] at hgt
    have hk3 : C.ins + (k : Int) ≤ 340 := by have := h.a1; have := h.b1; have := h.g; unfold Ci.ins; omega
    generalize C.gs[k] = gg at hgt ⊢
    obtain ⟨x, y, z⟩ := gg
    rcases gateOk_yes hgt with ⟨hx, hy, hz⟩ | ⟨rfl, hy, rfl⟩ | ⟨rfl, rfl, rfl⟩
    · exact ⟨i64 x (by omega) (by omega), i64 y (by omega) (by omega), i64 z (by omega) (by omega)⟩
    · exact ⟨i64 2 (by omega) (by omega), i64 y (by omega) (by omega), i64 0 (by omega) (by omega)⟩
    · exact ⟨i64 3 (by omega) (by omega), i64 0 (by omega) (by omega), i64 0 (by omega) (by omega)⟩
  · obtain ⟨k, hk, e⟩ := memAt.1 hz
    have := h.out k hk
    rw [e] at this
    exact i64 _ (by omega) (by omega)

set_option maxHeartbeats 1000000 in
theorem andsSpec0 (x : Int) (RC : Ci) (rb : Bool) (w : World) (hm : m_Kind 0 x = (RC, rb)) :
    Calls Try.prog 15 #[.int .i64 0, .int .i64 x] w fun e w' => e = .returned (.tuple #[.int .i64 (andsN RC rb), .bool rb]) ∧ Below w.heap.size w w' := by
  go_enter Try.func15, Try.ntmps15
  go_wp2_with fail
  refine (gdKind0_any x RC rb w hm).mono ?_
  rintro e w1 ⟨u, rfl, o1, b1⟩
  obtain ⟨Gx, nx, cx, Ox, px, dx, rfl, _, _⟩ := id o1
  have y2 := Blk.new w1 #[.int .i64 RC.in0, .int .i64 RC.in1, .slice Gx nx cx, .slice Ox px dx] 34
  have b2 := belowNew w1 (.cells #[.int .i64 RC.in0, .int .i64 RC.in1, .slice Gx nx cx, .slice Ox px dx] 34)
  have h2 := o1.has.below b2
  obtain ⟨w2, hw2⟩ : ∃ W, W = w1.alloc (.cells #[.int .i64 RC.in0, .int .i64 RC.in1, .slice Gx nx cx, .slice Ox px dx] 34) := ⟨_, rfl⟩
  rw [← hw2] at y2 b2 h2
  have B2 := b1.trans (b2.mono b1.size)
  obtain ⟨k0, k1, k2, k3⟩ := y2.four
  clear o1 b1 b2 y2
  cases rb with
  | false =>
    go_upto_region 2 with fail
    rw [← hw2]
    clear hw2
    go_wp2_with fail
    go_ret2
    exact ⟨rfl, B2⟩
  | true =>
    have hG := gd_yes (kindGood2 (by decide) hm)
    have HC := Lib.hid (ciCounts_any _ RC w2 h2 hG)
    clear hG hm h2
    go_upto_region 2 with fail
    rw [← hw2]
    clear hw2
    go_wp2_with fail
    refine (HC.out).mono ?_
    rintro e w3 ⟨R3, rfl, o3, b3⟩
    obtain ⟨g, rfl⟩ := o3.spot (by decide)
    have c1 := o3.cellR (k := 1) (by decide)
    obtain ⟨z, hz⟩ : ∃ z, (countsTo RC RC.gs.length).getD 1 0 = z := ⟨_, rfl⟩
    rw [hz] at c1
    have HZ := Lib.hid hz
    clear HC o3 hz
    go_wp2_with fail
    go_ret2
    have hz := HZ.out
    exact ⟨by rw [andsN, if_pos rfl, hz]; rfl, B2.trans (b3.mono B2.size)⟩

set_option maxHeartbeats 1000000 in
theorem andsSpec1 (x : Int) (RC : Ci) (rb : Bool) (w : World) (hm : m_Kind 1 x = (RC, rb)) :
    Calls Try.prog 15 #[.int .i64 1, .int .i64 x] w fun e w' => e = .returned (.tuple #[.int .i64 (andsN RC rb), .bool rb]) ∧ Below w.heap.size w w' := by
  go_enter Try.func15, Try.ntmps15
  go_wp2_with fail
  refine (gdKind1_any x RC rb w hm).mono ?_
  rintro e w1 ⟨u, rfl, o1, b1⟩
  obtain ⟨Gx, nx, cx, Ox, px, dx, rfl, _, _⟩ := id o1
  have y2 := Blk.new w1 #[.int .i64 RC.in0, .int .i64 RC.in1, .slice Gx nx cx, .slice Ox px dx] 34
  have b2 := belowNew w1 (.cells #[.int .i64 RC.in0, .int .i64 RC.in1, .slice Gx nx cx, .slice Ox px dx] 34)
  have h2 := o1.has.below b2
  obtain ⟨w2, hw2⟩ : ∃ W, W = w1.alloc (.cells #[.int .i64 RC.in0, .int .i64 RC.in1, .slice Gx nx cx, .slice Ox px dx] 34) := ⟨_, rfl⟩
  rw [← hw2] at y2 b2 h2
  have B2 := b1.trans (b2.mono b1.size)
  obtain ⟨k0, k1, k2, k3⟩ := y2.four
  clear o1 b1 b2 y2
  cases rb with
  | false =>
    go_upto_region 2 with fail
    rw [← hw2]
    clear hw2
    go_wp2_with fail
    go_ret2
    exact ⟨rfl, B2⟩
  | true =>
    have hG := gd_yes (kindGood2 (by decide) hm)
    have HC := Lib.hid (ciCounts_any _ RC w2 h2 hG)
    clear hG hm h2
    go_upto_region 2 with fail
    rw [← hw2]
    clear hw2
    go_wp2_with fail
    refine (HC.out).mono ?_
    rintro e w3 ⟨R3, rfl, o3, b3⟩
    obtain ⟨g, rfl⟩ := o3.spot (by decide)
    have c1 := o3.cellR (k := 1) (by decide)
    obtain ⟨z, hz⟩ : ∃ z, (countsTo RC RC.gs.length).getD 1 0 = z := ⟨_, rfl⟩
    rw [hz] at c1
    have HZ := Lib.hid hz
    clear HC o3 hz
    go_wp2_with fail
    go_ret2
    have hz := HZ.out
    exact ⟨by rw [andsN, if_pos rfl, hz]; rfl, B2.trans (b3.mono B2.size)⟩

set_option maxHeartbeats 1000000 in
theorem andsSpec2 (x : Int) (RC : Ci) (rb : Bool) (w : World) (hm : m_Kind 2 x = (RC, rb)) :
    Calls Try.prog 15 #[.int .i64 2, .int .i64 x] w fun e w' => e = .returned (.tuple #[.int .i64 (andsN RC rb), .bool rb]) ∧ Below w.heap.size w w' := by
  go_enter Try.func15, Try.ntmps15
  go_wp2_with fail
  refine (gdKind2_any x RC rb w hm).mono ?_
  rintro e w1 ⟨u, rfl, o1, b1⟩
  obtain ⟨Gx, nx, cx, Ox, px, dx, rfl, _, _⟩ := id o1
  have y2 := Blk.new w1 #[.int .i64 RC.in0, .int .i64 RC.in1, .slice Gx nx cx, .slice Ox px dx] 34
  have b2 := belowNew w1 (.cells #[.int .i64 RC.in0, .int .i64 RC.in1, .slice Gx nx cx, .slice Ox px dx] 34)
  have h2 := o1.has.below b2
  obtain ⟨w2, hw2⟩ : ∃ W, W = w1.alloc (.cells #[.int .i64 RC.in0, .int .i64 RC.in1, .slice Gx nx cx, .slice Ox px dx] 34) := ⟨_, rfl⟩
  rw [← hw2] at y2 b2 h2
  have B2 := b1.trans (b2.mono b1.size)
  obtain ⟨k0, k1, k2, k3⟩ := y2.four
  clear o1 b1 b2 y2
  cases rb with
  | false =>
    go_upto_region 2 with fail
    rw [← hw2]
    clear hw2
    go_wp2_with fail
    go_ret2
    exact ⟨rfl, B2⟩
  | true =>
    have hG := gd_yes (kindGood2 (by decide) hm)
    have HC := Lib.hid (ciCounts_any _ RC w2 h2 hG)
    clear hG hm h2
    go_upto_region 2 with fail
    rw [← hw2]
    clear hw2
    go_wp2_with fail
    refine (HC.out).mono ?_
    rintro e w3 ⟨R3, rfl, o3, b3⟩
    obtain ⟨g, rfl⟩ := o3.spot (by decide)
    have c1 := o3.cellR (k := 1) (by decide)
    obtain ⟨z, hz⟩ : ∃ z, (countsTo RC RC.gs.length).getD 1 0 = z := ⟨_, rfl⟩
    rw [hz] at c1
    have HZ := Lib.hid hz
    clear HC o3 hz
    go_wp2_with fail
    go_ret2
    have hz := HZ.out
    exact ⟨by rw [andsN, if_pos rfl, hz]; rfl, B2.trans (b3.mono B2.size)⟩

set_option maxHeartbeats 1000000 in
theorem andsSpec3 (x : Int) (RC : Ci) (rb : Bool) (w : World) (hm : m_Kind 3 x = (RC, rb)) :
    Calls Try.prog 15 #[.int .i64 3, .int .i64 x] w fun e w' => e = .returned (.tuple #[.int .i64 (andsN RC rb), .bool rb]) ∧ Below w.heap.size w w' := by
  go_enter Try.func15, Try.ntmps15
  go_wp2_with fail
  refine (gdKind3_any x RC rb w hm).mono ?_
  rintro e w1 ⟨u, rfl, o1, b1⟩
  obtain ⟨Gx, nx, cx, Ox, px, dx, rfl, _, _⟩ := id o1
  have y2 := Blk.new w1 #[.int .i64 RC.in0, .int .i64 RC.in1, .slice Gx nx cx, .slice Ox px dx] 34
  have b2 := belowNew w1 (.cells #[.int .i64 RC.in0, .int .i64 RC.in1, .slice Gx nx cx, .slice Ox px dx] 34)
  have h2 := o1.has.below b2
  obtain ⟨w2, hw2⟩ : ∃ W, W = w1.alloc (.cells #[.int .i64 RC.in0, .int .i64 RC.in1, .slice Gx nx cx, .slice Ox px dx] 34) := ⟨_, rfl⟩
  rw [← hw2] at y2 b2 h2
  have B2 := b1.trans (b2.mono b1.size)
  obtain ⟨k0, k1, k2, k3⟩ := y2.four
  clear o1 b1 b2 y2
  cases rb with
  | false =>
    go_upto_region 2 with fail
    rw [← hw2]
    clear hw2
    go_wp2_with fail
    go_ret2
    exact ⟨rfl, B2⟩
  | true =>
    have hG := gd_yes (kindGood2 (by decide) hm)
    have HC := Lib.hid (ciCounts_any _ RC w2 h2 hG)
    clear hG hm h2
    go_upto_region 2 with fail
    rw [← hw2]
    clear hw2
    go_wp2_with fail
    refine (HC.out).mono ?_
    rintro e w3 ⟨R3, rfl, o3, b3⟩
    obtain ⟨g, rfl⟩ := o3.spot (by decide)
    have c1 := o3.cellR (k := 1) (by decide)
    obtain ⟨z, hz⟩ : ∃ z, (countsTo RC RC.gs.length).getD 1 0 = z := ⟨_, rfl⟩
    rw [hz] at c1
    have HZ := Lib.hid hz
    clear HC o3 hz
    go_wp2_with fail
    go_ret2
    have hz := HZ.out
    exact ⟨by rw [andsN, if_pos rfl, hz]; rfl, B2.trans (b3.mono B2.size)⟩

set_option maxHeartbeats 1000000 in
theorem andsSpec4 (x : Int) (RC : Ci) (rb : Bool) (w : World) (hm : m_Kind 4 x = (RC, rb)) :
    Calls Try.prog 15 #[.int .i64 4, .int .i64 x] w fun e w' => e = .returned (.tuple #[.int .i64 (andsN RC rb), .bool rb]) ∧ Below w.heap.size w w' := by
  go_enter Try.func15, Try.ntmps15
  go_wp2_with fail
  refine (gdKind4_any x RC rb w hm).mono ?_
  rintro e w1 ⟨u, rfl, o1, b1⟩
  obtain ⟨Gx, nx, cx, Ox, px, dx, rfl, _, _⟩ := id o1
  have y2 := Blk.new w1 #[.int .i64 RC.in0, .int .i64 RC.in1, .slice Gx nx cx, .slice Ox px dx] 34
  have b2 := belowNew w1 (.cells #[.int .i64 RC.in0, .int .i64 RC.in1, .slice Gx nx cx, .slice Ox px dx] 34)
  have h2 := o1.has.below b2
  obtain ⟨w2, hw2⟩ : ∃ W, W = w1.alloc (.cells #[.int .i64 RC.in0, .int .i64 RC.in1, .slice Gx nx cx, .slice Ox px dx] 34) := ⟨_, rfl⟩
  rw [← hw2] at y2 b2 h2
  have B2 := b1.trans (b2.mono b1.size)
  obtain ⟨k0, k1, k2, k3⟩ := y2.four
  clear o1 b1 b2 y2
  cases rb with
  | false =>
    go_upto_region 2 with fail
    rw [← hw2]
    clear hw2
    go_wp2_with fail
    go_ret2
    exact ⟨rfl, B2⟩
  | true =>
    have hG := gd_yes (kindGood2 (by decide) hm)
    have HC := Lib.hid (ciCounts_any _ RC w2 h2 hG)
    clear hG hm h2
    go_upto_region 2 with fail
    rw [← hw2]
    clear hw2
    go_wp2_with fail
    refine (HC.out).mono ?_
    rintro e w3 ⟨R3, rfl, o3, b3⟩
    obtain ⟨g, rfl⟩ := o3.spot (by decide)
    have c1 := o3.cellR (k := 1) (by decide)
    obtain ⟨z, hz⟩ : ∃ z, (countsTo RC RC.gs.length).getD 1 0 = z := ⟨_, rfl⟩
    rw [hz] at c1
    have HZ := Lib.hid hz
    clear HC o3 hz
    go_wp2_with fail
    go_ret2
    have hz := HZ.out
    exact ⟨by rw [andsN, if_pos rfl, hz]; rfl, B2.trans (b3.mono B2.size)⟩

set_option maxHeartbeats 1000000 in
theorem andsSpec5 (x : Int) (RC : Ci) (rb : Bool) (w : World) (hm : m_Kind 5 x = (RC, rb)) :
    Calls Try.prog 15 #[.int .i64 5, .int .i64 x] w fun e w' => e = .returned (.tuple #[.int .i64 (andsN RC rb), .bool rb]) ∧ Below w.heap.size w w' := by
  go_enter Try.func15, Try.ntmps15
  go_wp2_with fail
  refine (gdKind5_any x RC rb w hm).mono ?_
  rintro e w1 ⟨u, rfl, o1, b1⟩
  obtain ⟨Gx, nx, cx, Ox, px, dx, rfl, _, _⟩ := id o1
  have y2 := Blk.new w1 #[.int .i64 RC.in0, .int .i64 RC.in1, .slice Gx nx cx, .slice Ox px dx] 34
  have b2 := belowNew w1 (.cells #[.int .i64 RC.in0, .int .i64 RC.in1, .slice Gx nx cx, .slice Ox px dx] 34)
  have h2 := o1.has.below b2
  obtain ⟨w2, hw2⟩ : ∃ W, W = w1.alloc (.cells #[.int .i64 RC.in0, .int .i64 RC.in1, .slice Gx nx cx, .slice Ox px dx] 34) := ⟨_, rfl⟩
  rw [← hw2] at y2 b2 h2
  have B2 := b1.trans (b2.mono b1.size)
  obtain ⟨k0, k1, k2, k3⟩ := y2.four
  clear o1 b1 b2 y2
  cases rb with
  | false =>
    go_upto_region 2 with fail
    rw [← hw2]
    clear hw2
    go_wp2_with fail
    go_ret2
    exact ⟨rfl, B2⟩
  | true =>
    have hG := gd_yes (kindGood2 (by decide) hm)
    have HC := Lib.hid (ciCounts_any _ RC w2 h2 hG)
    clear hG hm h2
    go_upto_region 2 with fail
    rw [← hw2]
    clear hw2
    go_wp2_with fail
    refine (HC.out).mono ?_
    rintro e w3 ⟨R3, rfl, o3, b3⟩
    obtain ⟨g, rfl⟩ := o3.spot (by decide)
    have c1 := o3.cellR (k := 1) (by decide)
    obtain ⟨z, hz⟩ : ∃ z, (countsTo RC RC.gs.length).getD 1 0 = z := ⟨_, rfl⟩
    rw [hz] at c1
    have HZ := Lib.hid hz
    clear HC o3 hz
    go_wp2_with fail
    go_ret2
    have hz := HZ.out
    exact ⟨by rw [andsN, if_pos rfl, hz]; rfl, B2.trans (b3.mono B2.size)⟩

set_option maxHeartbeats 1000000 in
theorem andsSpec6 (x : Int) (RC : Ci) (rb : Bool) (w : World) (hm : m_Kind 6 x = (RC, rb)) :
    Calls Try.prog 15 #[.int .i64 6, .int .i64 x] w fun e w' => e = .returned (.tuple #[.int .i64 (andsN RC rb), .bool rb]) ∧ Below w.heap.size w w' := by
  go_enter Try.func15, Try.ntmps15
  go_wp2_with fail
  refine (gdKind6_any x RC rb w hm).mono ?_
  rintro e w1 ⟨u, rfl, o1, b1⟩
  obtain ⟨Gx, nx, cx, Ox, px, dx, rfl, _, _⟩ := id o1
  have y2 := Blk.new w1 #[.int .i64 RC.in0, .int .i64 RC.in1, .slice Gx nx cx, .slice Ox px dx] 34
  have b2 := belowNew w1 (.cells #[.int .i64 RC.in0, .int .i64 RC.in1, .slice Gx nx cx, .slice Ox px dx] 34)
  have h2 := o1.has.below b2
  obtain ⟨w2, hw2⟩ : ∃ W, W = w1.alloc (.cells #[.int .i64 RC.in0, .int .i64 RC.in1, .slice Gx nx cx, .slice Ox px dx] 34) := ⟨_, rfl⟩
  rw [← hw2] at y2 b2 h2
  have B2 := b1.trans (b2.mono b1.size)
  obtain ⟨k0, k1, k2, k3⟩ := y2.four
  clear o1 b1 b2 y2
  cases rb with
  | false =>
    go_upto_region 2 with fail
    rw [← hw2]
    clear hw2
    go_wp2_with fail
    go_ret2
    exact ⟨rfl, B2⟩
  | true =>
    have hG := gd_yes (kindGood2 (by decide) hm)
    have HC := Lib.hid (ciCounts_any _ RC w2 h2 hG)
    clear hG hm h2
    go_upto_region 2 with fail
    rw [← hw2]
    clear hw2
    go_wp2_with fail
    refine (HC.out).mono ?_
    rintro e w3 ⟨R3, rfl, o3, b3⟩
    obtain ⟨g, rfl⟩ := o3.spot (by decide)
    have c1 := o3.cellR (k := 1) (by decide)
    obtain ⟨z, hz⟩ : ∃ z, (countsTo RC RC.gs.length).getD 1 0 = z := ⟨_, rfl⟩
    rw [hz] at c1
    have HZ := Lib.hid hz
    clear HC o3 hz
    go_wp2_with fail
    go_ret2
    have hz := HZ.out
    exact ⟨by rw [andsN, if_pos rfl, hz]; rfl, B2.trans (b3.mono B2.size)⟩

end Go.Proofs.Ytnelcbjegbchkaa
