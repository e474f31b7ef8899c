/- The model's ranges of wires and its new maker. For at most 1000 wires. -/
import Derived.Test.YteiibneaihdmbaaGdG2
import Derived.Test.YteiibneaihdmbaaGdM2
namespace Go.Proofs.Yteiibneaihdmbaa
open Go Go.RowKit
set_option maxRecDepth 100000

theorem rangeL_succ (x : Int) (n : Nat) : rangeL x (n + 1) = rangeL x n ++ [x + (n : Int)] := mapTo_succ _ _

set_option maxHeartbeats 1000000 in
theorem gdRange_any (x : Int) (n : Nat) (w : World) (x0 : 0 ≤ x) (x1 : x ≤ 1000000) (hn : n ≤ 1000) :
    Calls Try.prog 59 #[.int .i64 x, .int .i64 (n : Int)] w fun e w' => ∃ R c, e = .returned (.slice R n c) ∧ Own w' w.heap.size R n c (rangeL x n) ∧ Below w.heap.size w w' := by
  go_enter Try.func59, Try.ntmps59
  go_wp2_with fail
  go_loopw [5, 6] (fun ov iv wr => ∃ (k : Nat) (O : Option Addr) (cO : Nat), k ≤ n ∧ iv = .int .i64 k ∧ ov = .slice O k cO ∧ Own wr w.heap.size O k cO (rangeL x k) ∧ Below w.heap.size w wr) (fun _ iv _ => n - (intOf iv).toNat)
  case atStart => exact ⟨0, none, 0, Nat.zero_le _, rfl, rfl, Own.nil_ _ _, Below.refl _ _⟩
  case round =>
    obtain ⟨k, O, cO, hk, rfl, rfl, oO, bk⟩ := hrel
    by_cases hlt : k < n
    · have hs := bk.size
      have hwr : IntKind.i64.wrap (x + (k : Int)) = x + (k : Int) := wrapIn (by omega) (by omega)
      go_wp2_with (at_builtin; refine appendIntG wr rfl (.tmp 12) (.tmp 16) rfl (x + (k : Int)) w.heap.size (.slice O k cO) k (rangeL x k) rfl rfl oO.2 (by omega) hs ?_; intro v2 w2 own2 b2 g2)
      rw [← rangeL_succ] at own2
      obtain ⟨X2, cX2, rfl, O2⟩ := ownOf own2
      go_wp2_with fail
      go_roundw
      case rel => exact ⟨k + 1, X2, cX2, by omega, by go_num, rfl, O2, bk.trans b2⟩
      case measure => simp [intOf]; omega
    · obtain rfl : k = n := by omega
      go_wp2_with fail
      go_ret
      exact ⟨O, cO, rfl, oO, bk⟩

set_option maxHeartbeats 1000000 in
theorem ciNew_any (x y : Nat) (w : World) :
    Calls Try.prog 106 #[.int .i64 (x : Int), .int .i64 (y : Int)] w fun e w' => ∃ q, e = .returned (.pointer (some ⟨q, 0, none⟩)) ∧ Mk w' 118 q w.heap.size x y none 0 0 [] ∧ Below w.heap.size w w' := by
  have y1 := Blk.new w #[.int .i64 (x : Int), .int .i64 (y : Int), .slice none 0 0, .slice none 0 0] 118
  have b1 := belowNew w (.cells #[.int .i64 (x : Int), .int .i64 (y : Int), .slice none 0 0, .slice none 0 0] 118)
  obtain ⟨w1, hw1⟩ : ∃ W, W = w.alloc (.cells #[.int .i64 (x : Int), .int .i64 (y : Int), .slice none 0 0, .slice none 0 0] 118) := ⟨_, rfl⟩
  rw [← hw1] at y1 b1
  go_enter Try.func106, Try.ntmps106
  go_wp2_with fail
  rw [← hw1]
  clear hw1
  go_ret
  exact ⟨w.heap.size, rfl, ⟨y1, OwnG.nil_ _ _, Nat.le_refl _, (fun ad e => by cases e), by decide, by decide⟩, b1⟩

end Go.Proofs.Yteiibneaihdmbaa
