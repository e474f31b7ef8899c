/- The widths of all lines as they stand, and the test for inputs of a party. For lists of at most 1048576 lines. -/
import Derived.Test.YtcbofogmfelpkaaDoorLnI15
namespace Go.Proofs.YtcbofogmfelpkaaDoor
open Go Go.RowKit
set_option maxRecDepth 100000

set_option maxHeartbeats 1000000 in
theorem inputWidths1_any (i kd : Int) (nm o : ByteArray) (P : Value) (py wd vl : Int) (w : World) :
    Calls Tryd.prog 90 #[.int .i64 i, .agg #[.int .i64 kd, .string nm, .string o, P, .int .i64 py, .int .i64 wd, .int .i64 vl]] w fun e w' => e = .returned (.int .i64 wd) ∧ Below w.heap.size w w' := by
  have HB := Lib.hid (belowNew w (.cells #[.int .i64 kd, .string nm, .string o, P, .int .i64 py, .int .i64 wd, .int .i64 vl] 53))
  go_enter Tryd.func90, Tryd.ntmps90
  go_wp2_with fail
  go_ret
  exact ⟨rfl, HB.out⟩

set_option maxHeartbeats 1000000 in
theorem isInputOf1_any (q1 : Nat) (p kd : Int) (nm o : ByteArray) (P : Value) (py wd vl : Int) (w : World) (hq : w.cell? ⟨q1, 0, none⟩ = some (.int .i64 p)) :
    Calls Tryd.prog 109 #[.agg #[.int .i64 kd, .string nm, .string o, P, .int .i64 py, .int .i64 wd, .int .i64 vl], .pointer (some ⟨q1, 0, none⟩)] w fun e w' => e = .returned (.bool (decide (kd = 1 ∧ py = p))) ∧ Below w.heap.size w w' := by
  have b1 := belowNew w (.cells #[.int .i64 kd, .string nm, .string o, P, .int .i64 py, .int .i64 wd, .int .i64 vl] 53)
  have y1 := Blk.new w #[.int .i64 kd, .string nm, .string o, P, .int .i64 py, .int .i64 wd, .int .i64 vl] 53
  have hq1 := cellKept b1 (World.block_lt_of_cell? w _ hq) hq
  obtain ⟨W1, hW1⟩ : ∃ W, W = w.alloc (.cells #[.int .i64 kd, .string nm, .string o, P, .int .i64 py, .int .i64 wd, .int .i64 vl] 53) := ⟨_, rfl⟩
  rw [← hW1] at b1 y1 hq1
  have HB := Lib.hid b1
  obtain ⟨⟨d0, d1, d2, d3, d4, d5, d6⟩, _⟩ := y1.seven
  clear b1 y1 hq
  by_cases h1 : kd = 1
  · subst h1
    by_cases h2 : py = p
    · subst h2
      have HF : Hid (decide ((1 : Int) = 1 ∧ py = py) = true) := by show _ = _; simp
      go_enter Tryd.func109, Tryd.ntmps109
      go_upto_region 1 with fail
      rw [← hW1]
      clear hW1
      go_wp2_with fail
      go_ret
      exact ⟨retBl HF.out.symm, HB.out⟩
    · have HF : Hid (decide ((1 : Int) = 1 ∧ py = p) = false) := by show _ = _; simp [h2]
      go_enter Tryd.func109, Tryd.ntmps109
      go_upto_region 1 with fail
      rw [← hW1]
      clear hW1
      go_wp2_with fail
      go_ret
      exact ⟨retBl (by simpa using h2), HB.out⟩
  · have HF : Hid (decide (kd = 1 ∧ py = p) = false) := by show _ = _; simp [h1]
    have h3 : decide (kd = 1) = false := by simpa using h1
    have h4 : (kd == 1) = false := by simpa using h1
    go_enter Tryd.func109, Tryd.ntmps109
    go_upto_region 1 with fail
    rw [← hW1]
    clear hW1
    go_wp2_with fail
    go_ret
    exact ⟨rfl, HB.out⟩

set_option maxRecDepth 100000 in
set_option maxHeartbeats 2000000 in
theorem changedWidths_any (A : Option Addr) (n c : Nat) (ls : List Ln) (w : World) (h : HasL w A n ls) (hn : n ≤ 1048576) :
    Calls Tryd.prog 89 #[.slice A n c, .func (.func 90) #[] #[]] w
      fun e w' => e = .returned (.slice (some ⟨w.heap.size, 0, none⟩) n n) ∧ Own w' w.heap.size (some ⟨w.heap.size, 0, none⟩) n n (mapTo (fun j => (lnAt ls j).width) n) ∧ Below w.heap.size w w' := by
  have HH := Lib.hid h
  clear h
  go_enter Tryd.func89, Tryd.ntmps89
  go_wp2_with (at_make; refine makeInts _ rfl _ rfl n rfl (by omega) ?_; intro w1 hf hb1)
  have hf := hf (vals (mapTo (fun j => (lnAt ls j).width) n))
  go_loopw [13] (fun i wr => ∃ j : Nat, j ≤ n ∧ i = .int .i64 j ∧ Filled wr w.heap.size 3 w.heap.size n (vals (mapTo (fun j => (lnAt ls j).width) n)) (fun q => q < j) ∧ Below w.heap.size w wr) (fun i _ => n - (intOf i).toNat)
  case atStart => exact ⟨0, Nat.zero_le _, rfl, hf, hb1⟩
  case round =>
    obtain ⟨k, hk, rfl, hfk, bk⟩ := hrel
    by_cases hlt : k < n
    · obtain ⟨ad, kd, nm, o, ps, py, wd, vl, P, q, d, rfl, hc, _, _, _, HT⟩ := (HH.out.below bk).line hlt
      obtain ⟨c0, c1, c2, c3, c4, c5, c6⟩ := hc.cells
      have k0 : (0 : Int) ≤ (k : Int) := by omega
      have k1 : (k : Int) < (n : Int) := by omega
      have b2 := belowNew wr (.cells #[.int .i64 kd, .string nm, .string o, .slice P q d, .int .i64 py, .int .i64 wd, .int .i64 vl] 53)
      have y2 := Blk.new wr #[.int .i64 kd, .string nm, .string o, .slice P q d, .int .i64 py, .int .i64 wd, .int .i64 vl] 53
      have f2 := hfk.below b2
      obtain ⟨W2, hW2⟩ : ∃ W, W = wr.alloc (.cells #[.int .i64 kd, .string nm, .string o, .slice P q d, .int .i64 py, .int .i64 wd, .int .i64 vl] 53) := ⟨_, rfl⟩
      rw [← hW2] at b2 y2 f2
      obtain ⟨⟨d0, d1, d2, d3, d4, d5, d6⟩, _⟩ := y2.seven
      have B2 := Lib.hid (bk.trans (b2.mono bk.size))
      have F2 := Lib.hid f2
      have HC : Hid (∀ W, Calls Tryd.prog 90 #[.int .i64 (k : Int), .agg #[.int .i64 kd, .string nm, .string o, .slice P q d, .int .i64 py, .int .i64 wd, .int .i64 vl]] W fun e w' => e = .returned (.int .i64 wd) ∧ Below W.heap.size W w') := fun W => inputWidths1_any (k : Int) kd nm o (.slice P q d) py wd vl W
      clear hc b2 y2 f2 bk hfk
      go_upto_region 5 with fail
      rw [← hW2]
      clear hW2 c0 c1 c2 c3 c4 c5 c6
      go_wp2_with fail
      refine (HC.out _).mono ?_
      rintro e w3 ⟨rfl, b3⟩
      have B3 := Lib.hid (B2.out.trans (b3.mono B2.out.size))
      have F3 := Lib.hid (F2.out.below b3)
      obtain ⟨u, hu⟩ := F3.out.cell hlt
      have hfr := F3.out.free k
      clear b3
      go_wp2
      go_roundw
      case rel =>
        refine ⟨k + 1, by omega, by go_num, ?_, B3.out.setCell (Nat.le_refl _) _⟩
        exact F3.out.put hlt (by rw [mapTo_vals _ hlt, HT.out]) (by intro q _ hq; omega)
      case measure => simp [intOf]; omega
    · go_wp2
      go_ret
      exact ⟨rfl, ⟨mapTo_length _ _, hfk.full (by rw [vals_length, mapTo_length]) (by intro q hq; omega)⟩, bk⟩

end Go.Proofs.YtcbofogmfelpkaaDoor
