/- The program's counts of gates: CountGates. For every circuit of at most 1048576 gates and outs. -/
import Derived.Test.YtnelcbjegbchkaaCirIA
import Derived.Test.YtnelcbjegbchkaaCirG5
namespace Go.Proofs.Ytnelcbjegbchkaa
open Go.RowKit
set_option maxRecDepth 100000

set_option maxHeartbeats 2000000 in
theorem impl_CountGates (v : Value) (C : Ci) (rs : List Int) (rb : Bool) (w : World) (h : HasC w v C) (hf : Fit C) (hm : m_CountGates C = (rs, rb)) :
    Calls Try.prog 58 #[v] w fun e w' => ∃ R m c', e = .returned (.tuple #[.slice R m c', .bool rb]) ∧ Own w' w.heap.size R m c' rs ∧ m ≤ 16777216 ∧ Below w.heap.size w w' := by
  obtain ⟨G, n, c, O, q, d, rfl, hGs, hO, _, _, _, _⟩ := id h
  have hgl := hGs.1
  have HM := Lib.hid hm
  have B1 := belowNew w (.cells #[.int .i64 C.in0, .int .i64 C.in1, .slice G n c, .slice O q d] 34)
  have p1 := Blk.new w #[.int .i64 C.in0, .int .i64 C.in1, .slice G n c, .slice O q d] 34
  have h1 := h.below B1
  obtain ⟨W1, hW1⟩ : ∃ W, W = w.alloc (.cells #[.int .i64 C.in0, .int .i64 C.in1, .slice G n c, .slice O q d] 34) := ⟨_, rfl⟩
  rw [← hW1] at B1 p1 h1
  clear h hm
  obtain ⟨ok, hok⟩ : ∃ ok, gd C = ok := ⟨_, rfl⟩
  have HG := Lib.hid (isCircuit_any _ C ok W1 h1 (fitLen hf) hok)
  obtain ⟨k0, k1, k2, k3⟩ := p1.four
  cases ok with
  | false =>
    have e := HM.out
    rw [m_CountGates, hok] at e
    obtain ⟨rfl, rfl⟩ := Prod.mk.inj e
    clear e
    go_enter Try.func58, Try.ntmps58
    go_wp2_with fail
    rw [← hW1]
    refine (HG.out).mono ?_
    rintro e w2 ⟨rfl, b2⟩
    go_wp2_with fail
    go_ret2
    exact ⟨none, 0, 0, rfl, Own.nil_ _ _, by omega, B1.trans (b2.mono B1.size)⟩
  | true =>
    have e := HM.out
    rw [m_CountGates, if_pos hok, hgl] at e
    obtain ⟨e1, rfl⟩ := Prod.mk.inj e
    have HR := Lib.hid e1
    have hGood := gd_yes hok
    have n300 : n ≤ 300 := by have := hGood.g; omega
    have HGate : Hid (∀ k, k < n → gateOk (C.ins + (k : Int)) (C.gs.getD k g0) = true) := fun k hk => hGood.gate k (by omega)
    have hlt0 : w.heap.size < W1.heap.size := p1.lt
    clear e e1 hok hGood hgl
    go_enter Try.func58, Try.ntmps58
    go_wp2_with fail
    rw [← hW1]
    clear hW1
    refine (HG.out).mono ?_
    rintro e w2 ⟨rfl, b2⟩
    have p2 := p1.below' b2
    have B2 := B1.trans (b2.mono B1.size)
    clear p1 h1 B1 HG
    clear k0 k1 k2 k3
    obtain ⟨g, hg⟩ : ∃ g, w2.heap.size = g := ⟨_, rfl⟩
    have hgS : w.heap.size ≤ g := by rw [← hg]; exact B2.size
    go_upto_region 4 with (at_make; refine makeRow _ rfl _ rfl 4 rfl (by omega) ?_; rw [hg]; intro w3 hrow hb3)
    have p3 := p2.below hb3 (by rw [← hg]; exact p2.lt)
    have hr0 : Row w3 w.heap.size g 4 (countsTo C 0) := Row.mono hrow hgS
    have B3 := B2.trans (hb3.mono hgS)
    obtain ⟨k0, k1, k2, k3⟩ := p3.four
    clear p2 hrow hb3 B2 hg b2
    go_wp2_with fail
    clear k0 k1 k2 k3
    go_loopw [14] (fun iv wr => ∃ k : Nat, k ≤ n ∧ iv = .int .i64 k ∧ Row wr w.heap.size g 4 (countsTo C k) ∧ Below w.heap.size w wr) (fun iv _ => n - (intOf iv).toNat)
    case atStart => exact ⟨0, Nat.zero_le _, rfl, hr0, B3⟩
    case round =>
      obtain ⟨k, hk, rfl, hr, bk⟩ := hrel
      by_cases hlt : k < n
      · obtain ⟨ad, x, y, z, rfl, hgx, hgy, hgz, HE⟩ := (hGs.below bk).elem hlt
        have hgate := HGate.out k hlt
        rw [HE.out] at hgate
        obtain ⟨j, rfl, j4⟩ : ∃ j : Nat, x = (j : Int) ∧ j < 4 := by
          refine ⟨x.toNat, ?_, ?_⟩ <;> rcases gateOk_yes hgate with ⟨hx01, _, _⟩ | ⟨rfl, _, _⟩ | ⟨rfl, _, _⟩ <;> omega
        have HJ : Hid ((C.gs.getD k g0).1 = (j : Int)) := by show _ = _; rw [HE.out]
        have b3 := belowNew wr (.cells #[.int .i64 (j : Int), .int .i64 y, .int .i64 z] 72)
        have y3 := Blk.new wr #[.int .i64 (j : Int), .int .i64 y, .int .i64 z] 72
        have hr3 := hr.below b3
        have q0 : (0 : Int) ≤ (k : Int) := by omega
        have q1 : (k : Int) < (n : Int) := by omega
        obtain ⟨w3, hw3⟩ : ∃ W, W = wr.alloc (.cells #[.int .i64 (j : Int), .int .i64 y, .int .i64 z] 72) := ⟨_, rfl⟩
        rw [← hw3] at b3 y3 hr3
        have B3 := bk.trans (b3.mono bk.size)
        have hcj := hr3.cell j4
        have hfj := hr3.free j
        rw [countsTo, mapTo_at _ j4] at hcj
        obtain ⟨u, hu⟩ : ∃ u, cntTo C (j : Int) k = u := ⟨_, rfl⟩
        have hrg := cntTo_range C (j : Int) k
        rw [hu] at hcj hrg
        have hwu : IntKind.i64.wrap (u + 1) = u + 1 := wrapIn (by omega) (by omega)
        have g0c := y3.cell (i := 0) rfl
        have j0 : (0 : Int) ≤ (j : Int) := by omega
        have j1 : (j : Int) < 4 := by omega
        have e5 : (countsTo C k).set j (u + 1) = countsTo C (k + 1) := by rw [← hu]; exact countsTo_set C k j HJ.out j4
        have h5 := hr3.put j (u + 1)
        rw [e5] at h5
        have HR := Lib.hid h5
        clear hgate hr hr3 b3 bk hu y3 e5 h5
        go_upto_region 7 with fail
        rw [← hw3]
        clear hw3
        go_wp2_with fail
        go_roundw
        case rel => exact ⟨k + 1, by omega, by go_num, HR.out, B3.setCell hgS _⟩
        case measure => simp [intOf]; omega
      · obtain rfl : k = n := by omega
        go_wp2_with fail
        go_ret2
        exact ⟨_, 4, 4, rfl, by rw [← HR.out]; exact hr.own, by omega, bk⟩

end Go.Proofs.Ytnelcbjegbchkaa
