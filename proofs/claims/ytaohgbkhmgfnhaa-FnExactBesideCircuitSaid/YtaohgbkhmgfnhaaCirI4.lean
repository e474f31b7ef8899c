/- The program's values of wires: WireValues. For every circuit of at most 1048576 gates and outs and every two lists of at most 16777216 numbers. -/
import Derived.Test.YtaohgbkhmgfnhaaCirI3
import Derived.BigQuiet
import Derived.Deep.QuietTactic
namespace Go.Proofs.Ytaohgbkhmgfnhaa
open Go.RowKit
set_option maxRecDepth 100000

set_option maxHeartbeats 1000000 in
/-- The value of a gate. -/
theorem gateValue_any (x y z : Int) (A : Option Addr) (m c : Nat) (vs : List Int) (u : Int) (w : World) (hg : gateOk (m : Int) (x, y, z) = true) (hx : Has w A m vs) (hb : Bits vs) (hu : gval vs (x, y, z) = u) :
    Calls Try.prog 91 #[.agg #[.int .i64 x, .int .i64 y, .int .i64 z], .slice A m c] w fun e w' => e = .returned (.int .i64 u) ∧ Below w.heap.size w w' := by
  have HL := Lib.hid hx.1
  have b1 := belowNew w (.cells #[.int .i64 x, .int .i64 y, .int .i64 z] 51)
  have y1 := Blk.new w #[.int .i64 x, .int .i64 y, .int .i64 z] 51
  have hx1 := hx.below b1
  obtain ⟨W1, hW1⟩ : ∃ W, W = w.alloc (.cells #[.int .i64 x, .int .i64 y, .int .i64 z] 51) := ⟨_, rfl⟩
  rw [← hW1] at b1 y1 hx1
  have g0c := y1.cell (i := 0) rfl
  have g1c := y1.cell (i := 1) rfl
  have g2c := y1.cell (i := 2) rfl
  have HU := Lib.hid hu
  clear y1 hx hu
  rcases gateOk_yes hg with ⟨hx01, hy, hz⟩ | ⟨rfl, hy, rfl⟩ | ⟨rfl, rfl, rfl⟩
  · obtain ⟨jy, rfl⟩ : ∃ j : Nat, y = (j : Int) := ⟨y.toNat, by omega⟩
    obtain ⟨jz, rfl⟩ : ∃ j : Nat, z = (j : Int) := ⟨z.toNat, by omega⟩
    obtain ⟨rd, va, rfl, hcy, HY⟩ := hx1.elem (k := jy) (by omega)
    obtain ⟨rd', vb, e, hcz, HZ⟩ := hx1.elem (k := jz) (by omega)
    injection e with e
    subst e
    have a0 : (0 : Int) ≤ (jy : Int) := by omega
    have a1 : (jy : Int) < (m : Int) := by omega
    have a2 : (0 : Int) ≤ (jz : Int) := by omega
    have a3 : (jz : Int) < (m : Int) := by omega
    have bva : va = 0 ∨ va = 1 := by rw [HY.out]; exact hb jy (by have := HL.out; omega)
    have bvb : vb = 0 ∨ vb = 1 := by rw [HZ.out]; exact hb jz (by have := HL.out; omega)
    clear hg hy hz hb
    rcases hx01 with rfl | rfl
    · have hbx : bits BinOp.xor IntKind.i64 va vb = u := by
        rw [← HU.out, gval]
        simp only [Int.toNat_natCast, ← HY.out, ← HZ.out]
        rcases bva with rfl | rfl <;> rcases bvb with rfl | rfl <;> decide
      clear bva bvb HY HZ HU
      go_enter Try.func91, Try.ntmps91
      go_wp2_with fail
      rw [← hW1]
      clear hW1
      go_quiet (fail)
      go_wp2
      go_ret
      exact ⟨rfl, below_drewN b1 _⟩
    · have hbx : bits BinOp.and IntKind.i64 va vb = u := by
        rw [← HU.out, gval]
        simp only [Int.toNat_natCast, ← HY.out, ← HZ.out]
        rcases bva with rfl | rfl <;> rcases bvb with rfl | rfl <;> decide
      clear bva bvb HY HZ HU
      go_enter Try.func91, Try.ntmps91
      go_wp2_with fail
      rw [← hW1]
      clear hW1
      go_quiet (fail)
      go_wp2
      go_ret
      exact ⟨rfl, below_drewN b1 _⟩
  · obtain ⟨jy, rfl⟩ : ∃ j : Nat, y = (j : Int) := ⟨y.toNat, by omega⟩
    obtain ⟨rd, va, rfl, hcy, HY⟩ := hx1.elem (k := jy) (by omega)
    have a0 : (0 : Int) ≤ (jy : Int) := by omega
    have a1 : (jy : Int) < (m : Int) := by omega
    have bva : va = 0 ∨ va = 1 := by rw [HY.out]; exact hb jy (by have := HL.out; omega)
    have hbx : IntKind.i64.wrap (1 - va) = u := by
      rw [wrapIn (by omega) (by omega), ← HU.out, gval]
      simp only [Int.toNat_natCast, ← HY.out]
      rfl
    clear hg hy hb bva HY HU
    go_enter Try.func91, Try.ntmps91
    go_upto_region 7 with fail
    rw [← hW1]
    clear hW1
    go_wp2
    go_ret
    exact ⟨rfl, b1⟩
  · obtain rfl : 1 = u := HU.out
    clear hg hb HU
    go_enter Try.func91, Try.ntmps91
    go_upto_region 8 with fail
    rw [← hW1]
    clear hW1
    go_wp2
    go_ret
    exact ⟨rfl, b1⟩

end Go.Proofs.Ytaohgbkhmgfnhaa
