/- The program's ranges of wires (wiresFrom). For at most 1000 wires. -/
import Derived.Test.YteiibneaihdmbaaGdI3
import Derived.Test.YteiibneaihdmbaaGdM2
namespace Go.Proofs.Yteiibneaihdmbaa
open Go Go.RowKit
set_option maxRecDepth 100000

set_option maxHeartbeats 400000 in
theorem wfClosure_any (b : Nat) (x i y : Int) (W : World) (hc : W.cell? ⟨b, 0, none⟩ = some (.int .i64 x)) (x0 : 0 ≤ x) (x1 : x ≤ 1000000) (i0 : 0 ≤ i) (i1 : i ≤ 1000) :
    Calls Try.prog 122 #[.int .i64 i, .int .i64 y, .pointer (some ⟨b, 0, none⟩)] W fun e w' => e = .returned (.int .i64 (x + i)) ∧ W = w' := by
  have hw : IntKind.i64.wrap (x + i) = x + i := wrapIn (by omega) (by omega)
  go_enter Try.func122, Try.ntmps122
  go_wp2
  go_ret
  exact ⟨rfl, rfl⟩

set_option maxHeartbeats 2000000 in
theorem changedFrom_any (A : Option Addr) (n c : Nat) (zs : List Int) (b : Nat) (x : Int) (w : World) (hc : w.cell? ⟨b, 0, none⟩ = some (.int .i64 x)) (hb : b < w.heap.size) (x0 : 0 ≤ x) (x1 : x ≤ 1000000) (h : Has w A n zs) (hn : n ≤ 1000) :
    Calls Try.prog 70 #[.slice A n c, .func (.func 122) #[] #[.pointer (some ⟨b, 0, none⟩)]] w
      fun e w' => ∃ R, e = .returned (.slice R n n) ∧ Own w' w.heap.size R n n (rangeL x n) ∧ Below w.heap.size w w' := by
  go_enter Try.func70, Try.ntmps70
  go_wp2_with (at_make; refine makeInts _ rfl _ rfl n rfl (by omega) ?_; intro w1 hf hb1)
  have hf := hf (vals (rangeL x n))
  go_loopw [13] (fun i wr => ∃ j : Nat, j ≤ n ∧ i = .int .i64 j ∧ Filled wr w.heap.size 3 w.heap.size n (vals (rangeL x n)) (fun q => q < j) ∧ Below w.heap.size w wr) (fun i _ => n - (intOf i).toNat)
  case atStart => exact ⟨0, Nat.zero_le _, rfl, hf, hb1⟩
  case round =>
    obtain ⟨j, hj, rfl, hfj, hbj⟩ := hrel
    by_cases hlt : j < n
    · obtain ⟨ad, z, rfl, hcz, HZ⟩ := (h.below hbj).elem hlt
      obtain ⟨u, hu⟩ := hfj.cell hlt
      have hfr := hfj.free j
      have HC := Lib.hid (wfClosure_any b x (j : Int) z wr (cellKept hbj hb hc) x0 x1 (by omega) (by omega))
      go_wp2_with fail
      refine (HC.out).mono ?_
      rintro e w2 ⟨rfl, rfl⟩
      obtain ⟨y, hy⟩ : ∃ y, y = x + (j : Int) := ⟨_, rfl⟩
      rw [← hy]
      have HY := Lib.hid hy
      clear hy
      go_wp2
      go_roundw
      case rel =>
        refine ⟨j + 1, by omega, by go_num, ?_, hbj.setCell (Nat.le_refl _) _⟩
        exact hfj.put hlt (by rw [HY.out]; exact mapTo_vals _ hlt) (by intro q _ hq; omega)
      case measure => simp [intOf]; omega
    · go_wp2
      go_ret
      exact ⟨some ⟨w.heap.size, 0, none⟩, rfl, ⟨mapTo_length _ _, hfj.full (by rw [vals_length, rangeL_length]) (by intro q hq; omega)⟩, hbj⟩

set_option maxHeartbeats 1000000 in
theorem wiresFrom_any (x : Int) (n : Nat) (w : World) (x0 : 0 ≤ x) (x1 : x ≤ 1000000) (hn : n ≤ 1000) :
    Calls Try.prog 66 #[.int .i64 x, .int .i64 (n : Int)] w fun e w' => ∃ R, e = .returned (.slice R n n) ∧ Own w' w.heap.size R n n (rangeL x n) ∧ Below w.heap.size w w' := by
  have y1 := Blk.new w #[.int .i64 x] 3
  have b1 := belowNew w (.cells #[.int .i64 x] 3)
  obtain ⟨w1, hw1⟩ : ∃ W, W = w.alloc (.cells #[.int .i64 x] 3) := ⟨_, rfl⟩
  have s1 : w1.heap.size = w.heap.size + 1 := by rw [hw1]; simp
  rw [← hw1] at y1 b1
  have HS1 := Lib.hid s1
  clear s1
  go_enter Try.func66, Try.ntmps66
  go_upto_region 1 with fail
  rw [← hw1]
  clear hw1
  go_wp2_with (at_make; refine makeRow w1 rfl _ rfl n rfl (by omega) ?_; intro w2 o2 b2)
  have y2 := y1.below' b2
  have B2 := b1.trans (b2.mono b1.size)
  refine (changedFrom_any _ n n _ w.heap.size x w2 (y2.cell (i := 0) rfl) y2.lt x0 x1 o2.has hn).mono ?_
  rintro e w3 ⟨R, rfl, o3, b3⟩
  go_wp2_with fail
  go_ret
  exact ⟨R, rfl, o3.mono B2.size, B2.trans (b3.mono B2.size)⟩

end Go.Proofs.Yteiibneaihdmbaa
