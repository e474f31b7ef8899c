/- AndsOf: the program's side, and the kinds out of range. For every kind and width. -/
import Derived.Test.YtnelcbjegbchkaaGdA1
import Derived.Laws.EntriesVeiled
namespace Go.Proofs.Ytnelcbjegbchkaa
open Go Go.RowKit
set_option maxRecDepth 100000

set_option maxHeartbeats 1000000 in
theorem andsImpl0 (x : Int) (RC : Ci) (rb : Bool) (w : World) (hx : I64 x) (hm : m_Kind 0 x = (RC, rb)) :
    Calls Try.prog 16 #[.int .i64 0, .int .i64 x] w fun e w' => e = .returned (.tuple #[.int .i64 (andsN RC rb), .bool rb]) ∧ Below w.heap.size w w' := by
  have ya := Blk.new w #[.func (.func 50) #[] #[], .func (.func 51) #[] #[], .func (.func 52) #[] #[], .func (.func 53) #[] #[], .func (.func 54) #[] #[], .func (.func 55) #[] #[], .func (.func 56) #[] #[]] 58
  have ba := belowNew w (.cells #[.func (.func 50) #[] #[], .func (.func 51) #[] #[], .func (.func 52) #[] #[], .func (.func 53) #[] #[], .func (.func 54) #[] #[], .func (.func 55) #[] #[], .func (.func 56) #[] #[]] 58)
  obtain ⟨wa, hwa⟩ : ∃ W, W = w.alloc (.cells #[.func (.func 50) #[] #[], .func (.func 51) #[] #[], .func (.func 52) #[] #[], .func (.func 53) #[] #[], .func (.func 54) #[] #[], .func (.func 55) #[] #[], .func (.func 56) #[] #[]] 58) := ⟨_, rfl⟩
  rw [← hwa] at ya ba
  have cj := ya.cell (i := 0) rfl
  have HI := Lib.hid (isBelow_any 0 7 true wa rfl)
  clear ya
  go_enter Try.func16, Try.ntmps16
  go_upto_region 2 with fail
  rw [← hwa]
  clear hwa
  go_wp2_with fail
  refine (HI.out).mono ?_
  rintro e w0 ⟨rfl, rfl⟩
  go_wp2_with fail
  refine (impl_AdderCircuit x RC rb wa hx hm).mono ?_
  rintro e w1 ⟨u, rfl, o1, _, _, b1'⟩
  have b1 := ba.trans (b1'.mono ba.size)
  obtain ⟨Gx, nx, cx, Ox, px, dx, rfl, _, _⟩ := id o1
  have y2 := Blk.new w1 #[.int .i64 RC.in0, .int .i64 RC.in1, .slice Gx nx cx, .slice Ox px dx] 34
  have b2 := belowNew w1 (.cells #[.int .i64 RC.in0, .int .i64 RC.in1, .slice Gx nx cx, .slice Ox px dx] 34)
  have h2 := o1.has.below b2
  obtain ⟨w2, hw2⟩ : ∃ W, W = w1.alloc (.cells #[.int .i64 RC.in0, .int .i64 RC.in1, .slice Gx nx cx, .slice Ox px dx] 34) := ⟨_, rfl⟩
  rw [← hw2] at y2 b2 h2
  have B2 := b1.trans (b2.mono b1.size)
  obtain ⟨k0, k1, k2, k3⟩ := y2.four
  clear o1 b1 b2 y2 b1' ba cj
  cases rb with
  | false =>
    go_upto_region 5 with fail
    rw [← hw2]
    clear hw2
    go_wp2_with fail
    go_ret2
    exact ⟨rfl, B2⟩
  | true =>
    have hgd := kindGood2 (by decide) hm
    have hG := gd_yes hgd
    have HC := Lib.hid (impl_CountGates _ RC (countsTo RC RC.gs.length) true w2 h2 (fitOf hG) (by rw [m_CountGates, if_pos hgd]))
    have hl4 : (countsTo RC RC.gs.length).length = 4 := mapTo_length _ _
    have HL4 := Lib.hid hl4
    clear hG hgd hm h2 hl4
    go_upto_region 5 with fail
    rw [← hw2]
    clear hw2
    go_wp2_with fail
    refine (HC.out).mono ?_
    rintro e w3 ⟨R3, m3, c3, rfl, o3, _, b3⟩
    obtain rfl : m3 = 4 := by rw [← o3.1, HL4.out]
    obtain ⟨g, rfl⟩ := o3.spot (by decide)
    have c1 := o3.cellR (k := 1) (by decide)
    obtain ⟨z, hz⟩ : ∃ z, (countsTo RC RC.gs.length).getD 1 0 = z := ⟨_, rfl⟩
    rw [hz] at c1
    have HZ := Lib.hid hz
    clear HC o3 hz
    go_wp2_with fail
    go_ret2
    have hz := HZ.out
    exact ⟨by rw [andsN, if_pos rfl, hz]; rfl, B2.trans (b3.mono B2.size)⟩

set_option maxHeartbeats 1000000 in
theorem andsImpl1 (x : Int) (RC : Ci) (rb : Bool) (w : World) (hx : I64 x) (hm : m_Kind 1 x = (RC, rb)) :
    Calls Try.prog 16 #[.int .i64 1, .int .i64 x] w fun e w' => e = .returned (.tuple #[.int .i64 (andsN RC rb), .bool rb]) ∧ Below w.heap.size w w' := by
  have ya := Blk.new w #[.func (.func 50) #[] #[], .func (.func 51) #[] #[], .func (.func 52) #[] #[], .func (.func 53) #[] #[], .func (.func 54) #[] #[], .func (.func 55) #[] #[], .func (.func 56) #[] #[]] 58
  have ba := belowNew w (.cells #[.func (.func 50) #[] #[], .func (.func 51) #[] #[], .func (.func 52) #[] #[], .func (.func 53) #[] #[], .func (.func 54) #[] #[], .func (.func 55) #[] #[], .func (.func 56) #[] #[]] 58)
  obtain ⟨wa, hwa⟩ : ∃ W, W = w.alloc (.cells #[.func (.func 50) #[] #[], .func (.func 51) #[] #[], .func (.func 52) #[] #[], .func (.func 53) #[] #[], .func (.func 54) #[] #[], .func (.func 55) #[] #[], .func (.func 56) #[] #[]] 58) := ⟨_, rfl⟩
  rw [← hwa] at ya ba
  have cj := ya.cell (i := 1) rfl
  have HI := Lib.hid (isBelow_any 1 7 true wa rfl)
  clear ya
  go_enter Try.func16, Try.ntmps16
  go_upto_region 2 with fail
  rw [← hwa]
  clear hwa
  go_wp2_with fail
  refine (HI.out).mono ?_
  rintro e w0 ⟨rfl, rfl⟩
  go_wp2_with fail
  refine (impl_SubtractCircuit x RC rb wa hx hm).mono ?_
  rintro e w1 ⟨u, rfl, o1, _, _, b1'⟩
  have b1 := ba.trans (b1'.mono ba.size)
  obtain ⟨Gx, nx, cx, Ox, px, dx, rfl, _, _⟩ := id o1
  have y2 := Blk.new w1 #[.int .i64 RC.in0, .int .i64 RC.in1, .slice Gx nx cx, .slice Ox px dx] 34
  have b2 := belowNew w1 (.cells #[.int .i64 RC.in0, .int .i64 RC.in1, .slice Gx nx cx, .slice Ox px dx] 34)
  have h2 := o1.has.below b2
  obtain ⟨w2, hw2⟩ : ∃ W, W = w1.alloc (.cells #[.int .i64 RC.in0, .int .i64 RC.in1, .slice Gx nx cx, .slice Ox px dx] 34) := ⟨_, rfl⟩
  rw [← hw2] at y2 b2 h2
  have B2 := b1.trans (b2.mono b1.size)
  obtain ⟨k0, k1, k2, k3⟩ := y2.four
  clear o1 b1 b2 y2 b1' ba cj
  cases rb with
  | false =>
    go_upto_region 5 with fail
    rw [← hw2]
    clear hw2
    go_wp2_with fail
    go_ret2
    exact ⟨rfl, B2⟩
  | true =>
    have hgd := kindGood2 (by decide) hm
    have hG := gd_yes hgd
    have HC := Lib.hid (impl_CountGates _ RC (countsTo RC RC.gs.length) true w2 h2 (fitOf hG) (by rw [m_CountGates, if_pos hgd]))
    have hl4 : (countsTo RC RC.gs.length).length = 4 := mapTo_length _ _
    have HL4 := Lib.hid hl4
    clear hG hgd hm h2 hl4
    go_upto_region 5 with fail
    rw [← hw2]
    clear hw2
    go_wp2_with fail
    refine (HC.out).mono ?_
    rintro e w3 ⟨R3, m3, c3, rfl, o3, _, b3⟩
    obtain rfl : m3 = 4 := by rw [← o3.1, HL4.out]
    obtain ⟨g, rfl⟩ := o3.spot (by decide)
    have c1 := o3.cellR (k := 1) (by decide)
    obtain ⟨z, hz⟩ : ∃ z, (countsTo RC RC.gs.length).getD 1 0 = z := ⟨_, rfl⟩
    rw [hz] at c1
    have HZ := Lib.hid hz
    clear HC o3 hz
    go_wp2_with fail
    go_ret2
    have hz := HZ.out
    exact ⟨by rw [andsN, if_pos rfl, hz]; rfl, B2.trans (b3.mono B2.size)⟩

set_option maxHeartbeats 1000000 in
theorem andsImpl2 (x : Int) (RC : Ci) (rb : Bool) (w : World) (hx : I64 x) (hm : m_Kind 2 x = (RC, rb)) :
    Calls Try.prog 16 #[.int .i64 2, .int .i64 x] w fun e w' => e = .returned (.tuple #[.int .i64 (andsN RC rb), .bool rb]) ∧ Below w.heap.size w w' := by
  have ya := Blk.new w #[.func (.func 50) #[] #[], .func (.func 51) #[] #[], .func (.func 52) #[] #[], .func (.func 53) #[] #[], .func (.func 54) #[] #[], .func (.func 55) #[] #[], .func (.func 56) #[] #[]] 58
  have ba := belowNew w (.cells #[.func (.func 50) #[] #[], .func (.func 51) #[] #[], .func (.func 52) #[] #[], .func (.func 53) #[] #[], .func (.func 54) #[] #[], .func (.func 55) #[] #[], .func (.func 56) #[] #[]] 58)
  obtain ⟨wa, hwa⟩ : ∃ W, W = w.alloc (.cells #[.func (.func 50) #[] #[], .func (.func 51) #[] #[], .func (.func 52) #[] #[], .func (.func 53) #[] #[], .func (.func 54) #[] #[], .func (.func 55) #[] #[], .func (.func 56) #[] #[]] 58) := ⟨_, rfl⟩
  rw [← hwa] at ya ba
  have cj := ya.cell (i := 2) rfl
  have HI := Lib.hid (isBelow_any 2 7 true wa rfl)
  clear ya
  go_enter Try.func16, Try.ntmps16
  go_upto_region 2 with fail
  rw [← hwa]
  clear hwa
  go_wp2_with fail
  refine (HI.out).mono ?_
  rintro e w0 ⟨rfl, rfl⟩
  go_wp2_with fail
  refine (impl_LessCircuit x RC rb wa hx hm).mono ?_
  rintro e w1 ⟨u, rfl, o1, _, _, b1'⟩
  have b1 := ba.trans (b1'.mono ba.size)
  obtain ⟨Gx, nx, cx, Ox, px, dx, rfl, _, _⟩ := id o1
  have y2 := Blk.new w1 #[.int .i64 RC.in0, .int .i64 RC.in1, .slice Gx nx cx, .slice Ox px dx] 34
  have b2 := belowNew w1 (.cells #[.int .i64 RC.in0, .int .i64 RC.in1, .slice Gx nx cx, .slice Ox px dx] 34)
  have h2 := o1.has.below b2
  obtain ⟨w2, hw2⟩ : ∃ W, W = w1.alloc (.cells #[.int .i64 RC.in0, .int .i64 RC.in1, .slice Gx nx cx, .slice Ox px dx] 34) := ⟨_, rfl⟩
  rw [← hw2] at y2 b2 h2
  have B2 := b1.trans (b2.mono b1.size)
  obtain ⟨k0, k1, k2, k3⟩ := y2.four
  clear o1 b1 b2 y2 b1' ba cj
  cases rb with
  | false =>
    go_upto_region 5 with fail
    rw [← hw2]
    clear hw2
    go_wp2_with fail
    go_ret2
    exact ⟨rfl, B2⟩
  | true =>
    have hgd := kindGood2 (by decide) hm
    have hG := gd_yes hgd
    have HC := Lib.hid (impl_CountGates _ RC (countsTo RC RC.gs.length) true w2 h2 (fitOf hG) (by rw [m_CountGates, if_pos hgd]))
    have hl4 : (countsTo RC RC.gs.length).length = 4 := mapTo_length _ _
    have HL4 := Lib.hid hl4
    clear hG hgd hm h2 hl4
    go_upto_region 5 with fail
    rw [← hw2]
    clear hw2
    go_wp2_with fail
    refine (HC.out).mono ?_
    rintro e w3 ⟨R3, m3, c3, rfl, o3, _, b3⟩
    obtain rfl : m3 = 4 := by rw [← o3.1, HL4.out]
    obtain ⟨g, rfl⟩ := o3.spot (by decide)
    have c1 := o3.cellR (k := 1) (by decide)
    obtain ⟨z, hz⟩ : ∃ z, (countsTo RC RC.gs.length).getD 1 0 = z := ⟨_, rfl⟩
    rw [hz] at c1
    have HZ := Lib.hid hz
    clear HC o3 hz
    go_wp2_with fail
    go_ret2
    have hz := HZ.out
    exact ⟨by rw [andsN, if_pos rfl, hz]; rfl, B2.trans (b3.mono B2.size)⟩

set_option maxHeartbeats 1000000 in
theorem andsImpl3 (x : Int) (RC : Ci) (rb : Bool) (w : World) (hx : I64 x) (hm : m_Kind 3 x = (RC, rb)) :
    Calls Try.prog 16 #[.int .i64 3, .int .i64 x] w fun e w' => e = .returned (.tuple #[.int .i64 (andsN RC rb), .bool rb]) ∧ Below w.heap.size w w' := by
  have ya := Blk.new w #[.func (.func 50) #[] #[], .func (.func 51) #[] #[], .func (.func 52) #[] #[], .func (.func 53) #[] #[], .func (.func 54) #[] #[], .func (.func 55) #[] #[], .func (.func 56) #[] #[]] 58
  have ba := belowNew w (.cells #[.func (.func 50) #[] #[], .func (.func 51) #[] #[], .func (.func 52) #[] #[], .func (.func 53) #[] #[], .func (.func 54) #[] #[], .func (.func 55) #[] #[], .func (.func 56) #[] #[]] 58)
  obtain ⟨wa, hwa⟩ : ∃ W, W = w.alloc (.cells #[.func (.func 50) #[] #[], .func (.func 51) #[] #[], .func (.func 52) #[] #[], .func (.func 53) #[] #[], .func (.func 54) #[] #[], .func (.func 55) #[] #[], .func (.func 56) #[] #[]] 58) := ⟨_, rfl⟩
  rw [← hwa] at ya ba
  have cj := ya.cell (i := 3) rfl
  have HI := Lib.hid (isBelow_any 3 7 true wa rfl)
  clear ya
  go_enter Try.func16, Try.ntmps16
  go_upto_region 2 with fail
  rw [← hwa]
  clear hwa
  go_wp2_with fail
  refine (HI.out).mono ?_
  rintro e w0 ⟨rfl, rfl⟩
  go_wp2_with fail
  refine (impl_EqualCircuit x RC rb wa hx hm).mono ?_
  rintro e w1 ⟨u, rfl, o1, _, _, b1'⟩
  have b1 := ba.trans (b1'.mono ba.size)
  obtain ⟨Gx, nx, cx, Ox, px, dx, rfl, _, _⟩ := id o1
  have y2 := Blk.new w1 #[.int .i64 RC.in0, .int .i64 RC.in1, .slice Gx nx cx, .slice Ox px dx] 34
  have b2 := belowNew w1 (.cells #[.int .i64 RC.in0, .int .i64 RC.in1, .slice Gx nx cx, .slice Ox px dx] 34)
  have h2 := o1.has.below b2
  obtain ⟨w2, hw2⟩ : ∃ W, W = w1.alloc (.cells #[.int .i64 RC.in0, .int .i64 RC.in1, .slice Gx nx cx, .slice Ox px dx] 34) := ⟨_, rfl⟩
  rw [← hw2] at y2 b2 h2
  have B2 := b1.trans (b2.mono b1.size)
  obtain ⟨k0, k1, k2, k3⟩ := y2.four
  clear o1 b1 b2 y2 b1' ba cj
  cases rb with
  | false =>
    go_upto_region 5 with fail
    rw [← hw2]
    clear hw2
    go_wp2_with fail
    go_ret2
    exact ⟨rfl, B2⟩
  | true =>
    have hgd := kindGood2 (by decide) hm
    have hG := gd_yes hgd
    have HC := Lib.hid (impl_CountGates _ RC (countsTo RC RC.gs.length) true w2 h2 (fitOf hG) (by rw [m_CountGates, if_pos hgd]))
    have hl4 : (countsTo RC RC.gs.length).length = 4 := mapTo_length _ _
    have HL4 := Lib.hid hl4
    clear hG hgd hm h2 hl4
    go_upto_region 5 with fail
    rw [← hw2]
    clear hw2
    go_wp2_with fail
    refine (HC.out).mono ?_
    rintro e w3 ⟨R3, m3, c3, rfl, o3, _, b3⟩
    obtain rfl : m3 = 4 := by rw [← o3.1, HL4.out]
    obtain ⟨g, rfl⟩ := o3.spot (by decide)
    have c1 := o3.cellR (k := 1) (by decide)
    obtain ⟨z, hz⟩ : ∃ z, (countsTo RC RC.gs.length).getD 1 0 = z := ⟨_, rfl⟩
    rw [hz] at c1
    have HZ := Lib.hid hz
    clear HC o3 hz
    go_wp2_with fail
    go_ret2
    have hz := HZ.out
    exact ⟨by rw [andsN, if_pos rfl, hz]; rfl, B2.trans (b3.mono B2.size)⟩

set_option maxHeartbeats 1000000 in
theorem andsImpl4 (x : Int) (RC : Ci) (rb : Bool) (w : World) (hx : I64 x) (hm : m_Kind 4 x = (RC, rb)) :
    Calls Try.prog 16 #[.int .i64 4, .int .i64 x] w fun e w' => e = .returned (.tuple #[.int .i64 (andsN RC rb), .bool rb]) ∧ Below w.heap.size w w' := by
  have ya := Blk.new w #[.func (.func 50) #[] #[], .func (.func 51) #[] #[], .func (.func 52) #[] #[], .func (.func 53) #[] #[], .func (.func 54) #[] #[], .func (.func 55) #[] #[], .func (.func 56) #[] #[]] 58
  have ba := belowNew w (.cells #[.func (.func 50) #[] #[], .func (.func 51) #[] #[], .func (.func 52) #[] #[], .func (.func 53) #[] #[], .func (.func 54) #[] #[], .func (.func 55) #[] #[], .func (.func 56) #[] #[]] 58)
  obtain ⟨wa, hwa⟩ : ∃ W, W = w.alloc (.cells #[.func (.func 50) #[] #[], .func (.func 51) #[] #[], .func (.func 52) #[] #[], .func (.func 53) #[] #[], .func (.func 54) #[] #[], .func (.func 55) #[] #[], .func (.func 56) #[] #[]] 58) := ⟨_, rfl⟩
  rw [← hwa] at ya ba
  have cj := ya.cell (i := 4) rfl
  have HI := Lib.hid (isBelow_any 4 7 true wa rfl)
  clear ya
  go_enter Try.func16, Try.ntmps16
  go_upto_region 2 with fail
  rw [← hwa]
  clear hwa
  go_wp2_with fail
  refine (HI.out).mono ?_
  rintro e w0 ⟨rfl, rfl⟩
  go_wp2_with fail
  refine (impl_ChooseCircuit x RC rb wa hx hm).mono ?_
  rintro e w1 ⟨u, rfl, o1, _, _, b1'⟩
  have b1 := ba.trans (b1'.mono ba.size)
  obtain ⟨Gx, nx, cx, Ox, px, dx, rfl, _, _⟩ := id o1
  have y2 := Blk.new w1 #[.int .i64 RC.in0, .int .i64 RC.in1, .slice Gx nx cx, .slice Ox px dx] 34
  have b2 := belowNew w1 (.cells #[.int .i64 RC.in0, .int .i64 RC.in1, .slice Gx nx cx, .slice Ox px dx] 34)
  have h2 := o1.has.below b2
  obtain ⟨w2, hw2⟩ : ∃ W, W = w1.alloc (.cells #[.int .i64 RC.in0, .int .i64 RC.in1, .slice Gx nx cx, .slice Ox px dx] 34) := ⟨_, rfl⟩
  rw [← hw2] at y2 b2 h2
  have B2 := b1.trans (b2.mono b1.size)
  obtain ⟨k0, k1, k2, k3⟩ := y2.four
  clear o1 b1 b2 y2 b1' ba cj
  cases rb with
  | false =>
    go_upto_region 5 with fail
    rw [← hw2]
    clear hw2
    go_wp2_with fail
    go_ret2
    exact ⟨rfl, B2⟩
  | true =>
    have hgd := kindGood2 (by decide) hm
    have hG := gd_yes hgd
    have HC := Lib.hid (impl_CountGates _ RC (countsTo RC RC.gs.length) true w2 h2 (fitOf hG) (by rw [m_CountGates, if_pos hgd]))
    have hl4 : (countsTo RC RC.gs.length).length = 4 := mapTo_length _ _
    have HL4 := Lib.hid hl4
    clear hG hgd hm h2 hl4
    go_upto_region 5 with fail
    rw [← hw2]
    clear hw2
    go_wp2_with fail
    refine (HC.out).mono ?_
    rintro e w3 ⟨R3, m3, c3, rfl, o3, _, b3⟩
    obtain rfl : m3 = 4 := by rw [← o3.1, HL4.out]
    obtain ⟨g, rfl⟩ := o3.spot (by decide)
    have c1 := o3.cellR (k := 1) (by decide)
    obtain ⟨z, hz⟩ : ∃ z, (countsTo RC RC.gs.length).getD 1 0 = z := ⟨_, rfl⟩
    rw [hz] at c1
    have HZ := Lib.hid hz
    clear HC o3 hz
    go_wp2_with fail
    go_ret2
    have hz := HZ.out
    exact ⟨by rw [andsN, if_pos rfl, hz]; rfl, B2.trans (b3.mono B2.size)⟩

set_option maxHeartbeats 1000000 in
theorem andsImpl5 (x : Int) (RC : Ci) (rb : Bool) (w : World) (hx : I64 x) (hm : m_Kind 5 x = (RC, rb)) :
    Calls Try.prog 16 #[.int .i64 5, .int .i64 x] w fun e w' => e = .returned (.tuple #[.int .i64 (andsN RC rb), .bool rb]) ∧ Below w.heap.size w w' := by
  have ya := Blk.new w #[.func (.func 50) #[] #[], .func (.func 51) #[] #[], .func (.func 52) #[] #[], .func (.func 53) #[] #[], .func (.func 54) #[] #[], .func (.func 55) #[] #[], .func (.func 56) #[] #[]] 58
  have ba := belowNew w (.cells #[.func (.func 50) #[] #[], .func (.func 51) #[] #[], .func (.func 52) #[] #[], .func (.func 53) #[] #[], .func (.func 54) #[] #[], .func (.func 55) #[] #[], .func (.func 56) #[] #[]] 58)
  obtain ⟨wa, hwa⟩ : ∃ W, W = w.alloc (.cells #[.func (.func 50) #[] #[], .func (.func 51) #[] #[], .func (.func 52) #[] #[], .func (.func 53) #[] #[], .func (.func 54) #[] #[], .func (.func 55) #[] #[], .func (.func 56) #[] #[]] 58) := ⟨_, rfl⟩
  rw [← hwa] at ya ba
  have cj := ya.cell (i := 5) rfl
  have HI := Lib.hid (isBelow_any 5 7 true wa rfl)
  clear ya
  go_enter Try.func16, Try.ntmps16
  go_upto_region 2 with fail
  rw [← hwa]
  clear hwa
  go_wp2_with fail
  refine (HI.out).mono ?_
  rintro e w0 ⟨rfl, rfl⟩
  go_wp2_with fail
  refine (impl_GreatestCircuit x RC rb wa hx hm).mono ?_
  rintro e w1 ⟨u, rfl, o1, _, _, b1'⟩
  have b1 := ba.trans (b1'.mono ba.size)
  obtain ⟨Gx, nx, cx, Ox, px, dx, rfl, _, _⟩ := id o1
  have y2 := Blk.new w1 #[.int .i64 RC.in0, .int .i64 RC.in1, .slice Gx nx cx, .slice Ox px dx] 34
  have b2 := belowNew w1 (.cells #[.int .i64 RC.in0, .int .i64 RC.in1, .slice Gx nx cx, .slice Ox px dx] 34)
  have h2 := o1.has.below b2
  obtain ⟨w2, hw2⟩ : ∃ W, W = w1.alloc (.cells #[.int .i64 RC.in0, .int .i64 RC.in1, .slice Gx nx cx, .slice Ox px dx] 34) := ⟨_, rfl⟩
  rw [← hw2] at y2 b2 h2
  have B2 := b1.trans (b2.mono b1.size)
  obtain ⟨k0, k1, k2, k3⟩ := y2.four
  clear o1 b1 b2 y2 b1' ba cj
  cases rb with
  | false =>
    go_upto_region 5 with fail
    rw [← hw2]
    clear hw2
    go_wp2_with fail
    go_ret2
    exact ⟨rfl, B2⟩
  | true =>
    have hgd := kindGood2 (by decide) hm
    have hG := gd_yes hgd
    have HC := Lib.hid (impl_CountGates _ RC (countsTo RC RC.gs.length) true w2 h2 (fitOf hG) (by rw [m_CountGates, if_pos hgd]))
    have hl4 : (countsTo RC RC.gs.length).length = 4 := mapTo_length _ _
    have HL4 := Lib.hid hl4
    clear hG hgd hm h2 hl4
    go_upto_region 5 with fail
    rw [← hw2]
    clear hw2
    go_wp2_with fail
    refine (HC.out).mono ?_
    rintro e w3 ⟨R3, m3, c3, rfl, o3, _, b3⟩
    obtain rfl : m3 = 4 := by rw [← o3.1, HL4.out]
    obtain ⟨g, rfl⟩ := o3.spot (by decide)
    have c1 := o3.cellR (k := 1) (by decide)
    obtain ⟨z, hz⟩ : ∃ z, (countsTo RC RC.gs.length).getD 1 0 = z := ⟨_, rfl⟩
    rw [hz] at c1
    have HZ := Lib.hid hz
    clear HC o3 hz
    go_wp2_with fail
    go_ret2
    have hz := HZ.out
    exact ⟨by rw [andsN, if_pos rfl, hz]; rfl, B2.trans (b3.mono B2.size)⟩

set_option maxHeartbeats 1000000 in
theorem andsImpl6 (x : Int) (RC : Ci) (rb : Bool) (w : World) (hx : I64 x) (hm : m_Kind 6 x = (RC, rb)) :
    Calls Try.prog 16 #[.int .i64 6, .int .i64 x] w fun e w' => e = .returned (.tuple #[.int .i64 (andsN RC rb), .bool rb]) ∧ Below w.heap.size w w' := by
  have ya := Blk.new w #[.func (.func 50) #[] #[], .func (.func 51) #[] #[], .func (.func 52) #[] #[], .func (.func 53) #[] #[], .func (.func 54) #[] #[], .func (.func 55) #[] #[], .func (.func 56) #[] #[]] 58
  have ba := belowNew w (.cells #[.func (.func 50) #[] #[], .func (.func 51) #[] #[], .func (.func 52) #[] #[], .func (.func 53) #[] #[], .func (.func 54) #[] #[], .func (.func 55) #[] #[], .func (.func 56) #[] #[]] 58)
  obtain ⟨wa, hwa⟩ : ∃ W, W = w.alloc (.cells #[.func (.func 50) #[] #[], .func (.func 51) #[] #[], .func (.func 52) #[] #[], .func (.func 53) #[] #[], .func (.func 54) #[] #[], .func (.func 55) #[] #[], .func (.func 56) #[] #[]] 58) := ⟨_, rfl⟩
  rw [← hwa] at ya ba
  have cj := ya.cell (i := 6) rfl
  have HI := Lib.hid (isBelow_any 6 7 true wa rfl)
  clear ya
  go_enter Try.func16, Try.ntmps16
  go_upto_region 2 with fail
  rw [← hwa]
  clear hwa
  go_wp2_with fail
  refine (HI.out).mono ?_
  rintro e w0 ⟨rfl, rfl⟩
  go_wp2_with fail
  refine (impl_ProductCircuit x RC rb wa hx hm).mono ?_
  rintro e w1 ⟨u, rfl, o1, _, _, b1'⟩
  have b1 := ba.trans (b1'.mono ba.size)
  obtain ⟨Gx, nx, cx, Ox, px, dx, rfl, _, _⟩ := id o1
  have y2 := Blk.new w1 #[.int .i64 RC.in0, .int .i64 RC.in1, .slice Gx nx cx, .slice Ox px dx] 34
  have b2 := belowNew w1 (.cells #[.int .i64 RC.in0, .int .i64 RC.in1, .slice Gx nx cx, .slice Ox px dx] 34)
  have h2 := o1.has.below b2
  obtain ⟨w2, hw2⟩ : ∃ W, W = w1.alloc (.cells #[.int .i64 RC.in0, .int .i64 RC.in1, .slice Gx nx cx, .slice Ox px dx] 34) := ⟨_, rfl⟩
  rw [← hw2] at y2 b2 h2
  have B2 := b1.trans (b2.mono b1.size)
  obtain ⟨k0, k1, k2, k3⟩ := y2.four
  clear o1 b1 b2 y2 b1' ba cj
  cases rb with
  | false =>
    go_upto_region 5 with fail
    rw [← hw2]
    clear hw2
    go_wp2_with fail
    go_ret2
    exact ⟨rfl, B2⟩
  | true =>
    have hgd := kindGood2 (by decide) hm
    have hG := gd_yes hgd
    have HC := Lib.hid (impl_CountGates _ RC (countsTo RC RC.gs.length) true w2 h2 (fitOf hG) (by rw [m_CountGates, if_pos hgd]))
    have hl4 : (countsTo RC RC.gs.length).length = 4 := mapTo_length _ _
    have HL4 := Lib.hid hl4
    clear hG hgd hm h2 hl4
    go_upto_region 5 with fail
    rw [← hw2]
    clear hw2
    go_wp2_with fail
    refine (HC.out).mono ?_
    rintro e w3 ⟨R3, m3, c3, rfl, o3, _, b3⟩
    obtain rfl : m3 = 4 := by rw [← o3.1, HL4.out]
    obtain ⟨g, rfl⟩ := o3.spot (by decide)
    have c1 := o3.cellR (k := 1) (by decide)
    obtain ⟨z, hz⟩ : ∃ z, (countsTo RC RC.gs.length).getD 1 0 = z := ⟨_, rfl⟩
    rw [hz] at c1
    have HZ := Lib.hid hz
    clear HC o3 hz
    go_wp2_with fail
    go_ret2
    have hz := HZ.out
    exact ⟨by rw [andsN, if_pos rfl, hz]; rfl, B2.trans (b3.mono B2.size)⟩

set_option maxHeartbeats 1000000 in
theorem gdKindOut_any (k x : Int) (w : World) (hk : ¬ (0 ≤ k ∧ k ≤ 6)) :
    Calls Try.prog 48 #[.int .i64 k, .int .i64 x] w fun e w' => ∃ u, e = .returned (.tuple #[u, .bool false]) ∧ OwnC w' w.heap.size u ⟨0, 0, [], []⟩ ∧ Below w.heap.size w w' := by
  have r1 := Blk.new w #[.int .i64 0, .int .i64 0, .slice none 0 0, .slice none 0 0] 34
  have b1 := belowNew w (.cells #[.int .i64 0, .int .i64 0, .slice none 0 0, .slice none 0 0] 34)
  obtain ⟨w1, hw1⟩ : ∃ W, W = w.alloc (.cells #[.int .i64 0, .int .i64 0, .slice none 0 0, .slice none 0 0] 34) := ⟨_, rfl⟩
  rw [← hw1] at r1 b1
  have HI := Lib.hid (l1In_any k 0 6 false w1 (by rw [Bool.and_eq_false_iff, decide_eq_false_iff_not, decide_eq_false_iff_not]; omega))
  obtain ⟨ok, hok⟩ : ∃ b, (decide (1 ≤ x) && decide (x ≤ 8)) = b := ⟨_, rfl⟩
  have HW := Lib.hid (gdWidth_any x ok w1 hok)
  have f0 := r1.free 0
  have f1 := r1.free 1
  have f2 := r1.free 2
  have f3 := r1.free 3
  obtain ⟨z0, z1, z2, z3⟩ := r1.four
  obtain ⟨y7, o7, B7⟩ := fourSet (a := .int .i64 0) (b := .int .i64 0) (c := .slice none 0 0) (d := .slice none 0 0) (zeroOwnZ w1 (w.heap.size + 1)) r1 (Nat.lt_succ_self _) b1 (Nat.le_refl _)
  obtain ⟨e0, e1, e2, e3⟩ := y7.four
  have HY := Lib.hid (And.intro o7 B7)
  clear hok r1 b1 y7 o7 B7 hk
  cases ok with
  | false =>
    go_enter Try.func48, Try.ntmps48
    go_wp2_with fail
    rw [← hw1]
    clear hw1
    refine (HW.out).mono ?_
    rintro e w3 ⟨rfl, rfl⟩
    go_wp2_with fail
    refine bodyPost_ret (v := .tuple #[.agg #[.int .i64 0, .int .i64 0, .slice none 0 0, .slice none 0 0], .bool false]) (by simp [results, Try.results48, go_sem, e0, e1, e2, e3]) rfl ⟨_, rfl, HY.out.1.mono (Nat.le_succ _), HY.out.2⟩
  | true =>
    go_enter Try.func48, Try.ntmps48
    go_wp2_with fail
    rw [← hw1]
    clear hw1
    refine (HW.out).mono ?_
    rintro e w3 ⟨rfl, rfl⟩
    go_wp2_with fail
    refine (HI.out).mono ?_
    rintro e w4 ⟨rfl, rfl⟩
    go_wp2_with fail
    refine bodyPost_ret (v := .tuple #[.agg #[.int .i64 0, .int .i64 0, .slice none 0 0, .slice none 0 0], .bool false]) (by simp [results, Try.results48, go_sem, e0, e1, e2, e3]) rfl ⟨_, rfl, HY.out.1.mono (Nat.le_succ _), HY.out.2⟩

set_option maxHeartbeats 1000000 in
theorem andsSpecOut (k x : Int) (w : World) (hk : ¬ (0 ≤ k ∧ k ≤ 6)) :
    Calls Try.prog 15 #[.int .i64 k, .int .i64 x] w fun e w' => e = .returned (.tuple #[.int .i64 0, .bool false]) ∧ Below w.heap.size w w' := by
  have HK := Lib.hid (gdKindOut_any k x w hk)
  clear hk
  go_enter Try.func15, Try.ntmps15
  go_wp2_with fail
  refine (HK.out).mono ?_
  rintro e w1 ⟨u, rfl, o1, b1⟩
  obtain ⟨Gx, nx, cx, Ox, px, dx, rfl, _, _⟩ := id o1
  have b2 := belowNew w1 (.cells #[.int .i64 0, .int .i64 0, .slice Gx nx cx, .slice Ox px dx] 34)
  obtain ⟨w2, hw2⟩ : ∃ W, W = w1.alloc (.cells #[.int .i64 0, .int .i64 0, .slice Gx nx cx, .slice Ox px dx] 34) := ⟨_, rfl⟩
  rw [← hw2] at b2
  have B2 := b1.trans (b2.mono b1.size)
  clear o1 b1 b2
  go_upto_region 2 with fail
  rw [← hw2]
  clear hw2
  go_wp2_with fail
  go_ret2
  exact ⟨rfl, B2⟩

set_option maxHeartbeats 1000000 in
theorem andsImplOut (k x : Int) (w : World) (hk : ¬ (0 ≤ k ∧ k ≤ 6)) :
    Calls Try.prog 16 #[.int .i64 k, .int .i64 x] w fun e w' => e = .returned (.tuple #[.int .i64 0, .bool false]) ∧ Below w.heap.size w w' := by
  have ba := belowNew w (.cells #[.func (.func 50) #[] #[], .func (.func 51) #[] #[], .func (.func 52) #[] #[], .func (.func 53) #[] #[], .func (.func 54) #[] #[], .func (.func 55) #[] #[], .func (.func 56) #[] #[]] 58)
  obtain ⟨wa, hwa⟩ : ∃ W, W = w.alloc (.cells #[.func (.func 50) #[] #[], .func (.func 51) #[] #[], .func (.func 52) #[] #[], .func (.func 53) #[] #[], .func (.func 54) #[] #[], .func (.func 55) #[] #[], .func (.func 56) #[] #[]] 58) := ⟨_, rfl⟩
  rw [← hwa] at ba
  have HI := Lib.hid (isBelow_any k 7 false wa (by rw [Bool.and_eq_false_iff, decide_eq_false_iff_not, decide_eq_false_iff_not]; omega))
  clear hk
  go_enter Try.func16, Try.ntmps16
  go_upto_region 2 with fail
  rw [← hwa]
  clear hwa
  go_wp2_with fail
  refine (HI.out).mono ?_
  rintro e w0 ⟨rfl, rfl⟩
  go_wp2_with fail
  go_ret2
  exact ⟨rfl, ba⟩

theorem spec_AndsOf (k x : Int) (ry : Int) (rb : Bool) (w : World) (_hk : I64 k) (_hx : I64 x) (hm : m_AndsOf k x = (ry, rb)) :
    Calls Try.prog 15 #[.int .i64 k, .int .i64 x] w fun e w' => e = .returned (.tuple #[.int .i64 ry, .bool rb]) ∧ Below w.heap.size w w' := by
  by_cases hk : 0 ≤ k ∧ k ≤ 6
  · rw [m_AndsOf, if_pos hk] at hm
    obtain ⟨rfl, rfl⟩ := Prod.mk.inj hm
    have h7 : k = 0 ∨ k = 1 ∨ k = 2 ∨ k = 3 ∨ k = 4 ∨ k = 5 ∨ k = 6 := by omega
    rcases h7 with rfl | rfl | rfl | rfl | rfl | rfl | rfl
    · exact andsSpec0 x _ _ w rfl
    · exact andsSpec1 x _ _ w rfl
    · exact andsSpec2 x _ _ w rfl
    · exact andsSpec3 x _ _ w rfl
    · exact andsSpec4 x _ _ w rfl
    · exact andsSpec5 x _ _ w rfl
    · exact andsSpec6 x _ _ w rfl
  · rw [m_AndsOf, if_neg hk] at hm
    obtain ⟨rfl, rfl⟩ := Prod.mk.inj hm
    exact andsSpecOut k x w hk

theorem impl_AndsOf (k x : Int) (ry : Int) (rb : Bool) (w : World) (_hk : I64 k) (hx : I64 x) (hm : m_AndsOf k x = (ry, rb)) :
    Calls Try.prog 16 #[.int .i64 k, .int .i64 x] w fun e w' => e = .returned (.tuple #[.int .i64 ry, .bool rb]) ∧ Below w.heap.size w w' := by
  by_cases hk : 0 ≤ k ∧ k ≤ 6
  · rw [m_AndsOf, if_pos hk] at hm
    obtain ⟨rfl, rfl⟩ := Prod.mk.inj hm
    have h7 : k = 0 ∨ k = 1 ∨ k = 2 ∨ k = 3 ∨ k = 4 ∨ k = 5 ∨ k = 6 := by omega
    rcases h7 with rfl | rfl | rfl | rfl | rfl | rfl | rfl
    · exact andsImpl0 x _ _ w hx rfl
    · exact andsImpl1 x _ _ w hx rfl
    · exact andsImpl2 x _ _ w hx rfl
    · exact andsImpl3 x _ _ w hx rfl
    · exact andsImpl4 x _ _ w hx rfl
    · exact andsImpl5 x _ _ w hx rfl
    · exact andsImpl6 x _ _ w hx rfl
  · rw [m_AndsOf, if_neg hk] at hm
    obtain ⟨rfl, rfl⟩ := Prod.mk.inj hm
    exact andsImplOut k x w hk

end Go.Proofs.Ytnelcbjegbchkaa
