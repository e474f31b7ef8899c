/- The model's counts of gates. For every circuit of at most 1048576 gates and outs. -/
import Derived.Test.YtnelcbjegbchkaaCirM3
import Derived.Test.YtnelcbjegbchkaaCirG3
import Derived.Deep.DeepCutAuto
namespace Go.Proofs.Ytnelcbjegbchkaa
open Go.RowKit
set_option maxRecDepth 100000

set_option maxHeartbeats 2000000 in
theorem ciCounts_any (v : Value) (C : Ci) (w : World) (h : HasC w v C) (hG : Good C) :
    Calls Try.prog 49 #[v] w fun e w' => ∃ R, e = .returned (.slice R 4 4) ∧ Own w' w.heap.size R 4 4 (countsTo C C.gs.length) ∧ Below w.heap.size w w' := by
  obtain ⟨G, n, c, O, q, d, rfl, hGs, hO, _, _, _, _⟩ := id h
  have hgl := hGs.1
  have n300 : n ≤ 300 := by have := hG.g; omega
  rw [hgl]
  have HGate : Hid (∀ k, k < n → gateOk (C.ins + (k : Int)) (C.gs.getD k g0) = true) := fun k hk => hG.gate k (by omega)
  have B1 := belowNew w (.cells #[.int .i64 C.in0, .int .i64 C.in1, .slice G n c, .slice O q d] 34)
  have p1 := Blk.new w #[.int .i64 C.in0, .int .i64 C.in1, .slice G n c, .slice O q d] 34
  obtain ⟨W1, hW1⟩ : ∃ W, W = w.alloc (.cells #[.int .i64 C.in0, .int .i64 C.in1, .slice G n c, .slice O q d] 34) := ⟨_, rfl⟩
  rw [← hW1] at B1 p1
  have hsz : W1.heap.size = w.heap.size + 1 := by rw [hW1]; simp
  clear h hG hO hgl
  go_enter Try.func49, Try.ntmps49
  go_upto_region 1 with fail
  rw [← hW1]
  clear hW1
  go_upto_region 2 with (at_make; refine makeRow _ rfl _ rfl 4 rfl (by omega) ?_; intro w2 hrow hb2)
  have p2 := p1.below' hb2
  have k2 := p2.cell (i := 2) rfl
  have hr0 : Row w2 w.heap.size W1.heap.size 4 (countsTo C 0) := Row.mono hrow B1.size
  rw [hsz] at hr0
  have B2 := B1.trans (hb2.mono B1.size)
  clear p1 hrow hb2 B1 p2
  go_wp2_with fail
  go_loopw [10] (fun iv wr => ∃ k : Nat, k ≤ n ∧ iv = .int .i64 k ∧ Row wr w.heap.size (w.heap.size + 1) 4 (countsTo C k) ∧ Below w.heap.size w wr) (fun iv _ => n - (intOf iv).toNat)
  case atStart => exact ⟨0, Nat.zero_le _, rfl, hr0, B2⟩
  case round =>
    obtain ⟨k, hk, rfl, hr, bk⟩ := hrel
    by_cases hlt : k < n
    · obtain ⟨ad, x, y, z, rfl, hgx, hgy, hgz, HE⟩ := (hGs.below bk).elem hlt
      have hgate := HGate.out k hlt
      rw [HE.out] at hgate
      obtain ⟨j, rfl, j4⟩ : ∃ j : Nat, x = (j : Int) ∧ j < 4 := by
        refine ⟨x.toNat, ?_, ?_⟩ <;> rcases gateOk_yes hgate with ⟨hx01, _, _⟩ | ⟨rfl, _, _⟩ | ⟨rfl, _, _⟩ <;> omega
      have HJ : Hid ((C.gs.getD k g0).1 = (j : Int)) := by show _ = _; rw [HE.out]
      have b3 := belowNew wr (.cells #[.int .i64 (j : Int), .int .i64 y, .int .i64 z] 72)
      have y3 := Blk.new wr #[.int .i64 (j : Int), .int .i64 y, .int .i64 z] 72
      have hr3 := hr.below b3
      have q0 : (0 : Int) ≤ (k : Int) := by omega
      have q1 : (k : Int) < (n : Int) := by omega
      obtain ⟨w3, hw3⟩ : ∃ W, W = wr.alloc (.cells #[.int .i64 (j : Int), .int .i64 y, .int .i64 z] 72) := ⟨_, rfl⟩
      rw [← hw3] at b3 y3 hr3
      have B3 := bk.trans (b3.mono bk.size)
      have hcj := hr3.cell j4
      have hfj := hr3.free j
      rw [countsTo, mapTo_at _ j4] at hcj
      obtain ⟨u, hu⟩ : ∃ u, cntTo C (j : Int) k = u := ⟨_, rfl⟩
      have hrg := cntTo_range C (j : Int) k
      rw [hu] at hcj hrg
      have hwu : IntKind.i64.wrap (u + 1) = u + 1 := wrapIn (by omega) (by omega)
      have g0c := y3.cell (i := 0) rfl
      have j0 : (0 : Int) ≤ (j : Int) := by omega
      have j1 : (j : Int) < 4 := by omega
      have e5 : (countsTo C k).set j (u + 1) = countsTo C (k + 1) := by rw [← hu]; exact countsTo_set C k j HJ.out j4
      have h5 := hr3.put j (u + 1)
      rw [e5] at h5
      have HR := Lib.hid h5
      clear hgate hr hr3 b3 bk hu y3 e5 h5
      go_upto_region 5 with fail
      rw [← hw3]
      clear hw3
      go_wp2_with fail
      go_roundw
      case rel => exact ⟨k + 1, by omega, by go_num, HR.out, B3.setCell (by show w.heap.size ≤ w.heap.size + 1; omega) _⟩
      case measure => simp [intOf]; omega
    · obtain rfl : k = n := by omega
      go_wp2_with fail
      go_ret
      exact ⟨_, rfl, hr.own, bk⟩

end Go.Proofs.Ytnelcbjegbchkaa
